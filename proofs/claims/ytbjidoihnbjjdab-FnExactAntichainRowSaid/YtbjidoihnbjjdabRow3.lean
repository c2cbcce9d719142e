/- RowmotionTimes of the model; RowByToggles. -/
import Derived.Test.YtbjidoihnbjjdabRow2
import Derived.Test.YtbjidoihnbjjdabRev
import Derived.Test.YtbjidoihnbjjdabOrder
namespace Go.Proofs.Ytbjidoihnbjjdab
open Go.RowKit Go.WideShapes Go.ChangeShapes
set_option linter.unusedVariables false

theorem iter_comm (f : Nat → Nat) (k s : Nat) : iter f k (f s) = f (iter f k s) := by
  induction k with
  | zero => rfl
  | succ k ih => simp only [iter, ih]
set_option maxHeartbeats 1600000 in
theorem specRowmotionTimes_any (v : Value) (xs : List Int) (s k : Int) (w : World) (hv : Ints w v xs) (hl : xs.length ≤ 1048576) (wf : (Lit.int .i64 s).wf = true) (wfk : (Lit.int .i64 k).wf = true) :
    Calls Try.prog 18 #[.agg #[v], .int .i64 s, .int .i64 k] w fun r w' => r = .returned (.tuple #[.int .i64 (ansRT xs s k), .bool (okRT xs s k)]) ∧ Below w.heap.size w w' := by
  have HV := hid hv
  clear hv wf wfk
  go_enter Try.func18, Try.ntmps18
  have HB := hid (below_alloc (Below.refl _ w) (.cells #[v] 28))
  have A0 := hid (At.newAt w v 28 w.heap.size (by simp))
  go_wp2_with fail
  refine (tgIn_any _ xs s _ (HV.out.below HB.out) hl).mono ?_
  rintro e w' ⟨rfl, hb⟩
  replace HB := hid (below_to HB.out hb)
  replace A0 := hid (A0.out.below hb)
  clear hb
  cases hq : okIdeal xs s
  · have HO := hid (okRT_no1 (k := k) hq)
    clear hq
    have ebox0 := A0.out.1
    go_wp2
    go_ret2
    exact ⟨ret_ib (ansRT_no HO.out).symm HO.out.symm, HB.out⟩
  · have HQ := hid hq
    clear hq
    obtain ⟨z, rfl, h3, h4, h5⟩ := okIdeal_all HQ.out
    have HG := hid h3
    have HN := hid h4
    clear h3 h4 h5
    have ebox0 := A0.out.1
    cases hk : okK k
    · have HO := hid (okRT_no2 (xs := xs) (s := z) hk)
      have HK : Hid ((decide (-1000 ≤ k) && decide (k ≤ 1000)) = false) := hid hk
      clear hk
      go_wp2_with (go_at_call 44; refine (l1In_any _ _ _ _).mono ?_; rw [HK.out]; rintro e w' ⟨rfl, rfl⟩)
      go_ret2
      exact ⟨ret_ib (ansRT_no HO.out).symm HO.out.symm, HB.out⟩
    · have HO := hid (okRT_yes HQ.out hk)
      have HK : Hid ((decide (-1000 ≤ k) && decide (k ≤ 1000)) = true) := hid hk
      have hkk := okK_of hk
      clear hk
      go_wp2_with (go_at_call 44; refine (l1In_any _ _ _ _).mono ?_; rw [HK.out]; rintro e w' ⟨rfl, rfl⟩)
      clear ebox0
      by_cases h0 : 0 ≤ k
      · obtain ⟨n, rfl⟩ := Int.eq_ofNat_of_zero_le h0
        have HAns := hid (ansRT_pos HO.out)
        have HL := hid (fun k => iter_lt (f := rowmo xs) (m := 2 ^ xs.length) (fun s _ => rowmo_lt HG.out s) HN.out k)
        have hn : n ≤ 1000 := by omega
        clear hkk h0
        go_loopw [1, 2] (fun q i wr => ∃ j t : Nat, j ≤ n ∧ i = .int .i64 ((n - j : Nat) : Int) ∧ q = .int .i64 t ∧ Hid (iter (rowmo xs) j z = t) ∧ Below w.heap.size w wr ∧ At wr w.heap.size v) (fun _ i _ => (intOf i).toNat)
        case atStart => exact ⟨0, z, Nat.zero_le _, rfl, rfl, hid rfl, HB.out, A0.out⟩
        case round =>
          obtain ⟨j, t, hj, rfl, rfl, HT, hb, ha⟩ := hrel
          have hbox := ha.1
          have HB1 := hid hb
          have HA1 := hid ha
          clear hb ha
          obtain ⟨m, hm⟩ : ∃ m, n - j = m := ⟨_, rfl⟩
          rw [hm]
          by_cases hlt : 0 < m
          · have ht : t < 2 ^ xs.length := by rw [← HT.out]; exact HL.out j
            have HT2 := hid ht
            have hj2 : j + 1 ≤ n := by omega
            have HM : Hid (n - (j + 1) = m - 1) := hid (by omega)
            have hm1 : m ≤ 1000 := by omega
            clear ht hm
            go_wp2_with fail
            clear hbox
            refine (tgRow_any _ xs t _ (HV.out.below HB1.out) HG.out HT2.out).mono ?_
            rintro e' w' ⟨rfl, hb⟩
            have HB2 := hid (below_to HB1.out hb)
            have HA2 := hid (HA1.out.below hb)
            clear hb
            go_wp2
            go_roundw
            case rel => exact ⟨j + 1, _, by omega, (by rw [HM.out]; congr 1; omega), rfl, hid (by rw [iter, HT.out]), HB2.out, HA2.out⟩
            case measure => simp [intOf]; omega
          · obtain rfl : m = 0 := by omega
            have hjn : j = n := by omega
            subst hjn
            clear hm hlt
            go_wp2
            go_loopw [1, 2] (fun q i wr => i = .int .i64 0 ∧ q = .int .i64 t ∧ Below w.heap.size w wr) (fun _ _ _ => 0)
            case atStart => exact ⟨rfl, rfl, HB1.out⟩
            case round =>
              obtain ⟨rfl, rfl, hb⟩ := hrel
              have HB3 := hid hb
              clear hb
              go_wp2
              go_ret2
              exact ⟨ret_ib (by rw [HAns.out, ← HT.out]) HO.out.symm, HB3.out⟩
      · obtain ⟨n, hn⟩ := Int.eq_ofNat_of_zero_le (show 0 ≤ -k by omega)
        have HAns := hid (ansRT_neg HO.out (by omega) hn)
        have HL := hid (fun k => iter_lt (f := rowba xs) (m := 2 ^ xs.length) (fun s _ => rowba_lt xs s) HN.out k)
        have hneg : k = -(n : Int) := by omega
        have hn2 : n ≤ 1000 := by omega
        clear hn
        subst hneg
        clear hkk
        go_loopw [1, 2] (fun q i wr => i = .int .i64 (-(n : Int)) ∧ q = .int .i64 z ∧ Below w.heap.size w wr ∧ At wr w.heap.size v) (fun _ _ _ => 0)
        case atStart => exact ⟨rfl, rfl, HB.out, A0.out⟩
        case round =>
          obtain ⟨rfl, rfl, hb, ha⟩ := hrel
          have HB1 := hid hb
          have HA1 := hid ha
          clear hb ha
          have h0' : ¬ (0 : Int) < -(n : Int) := by omega
          go_wp2
          go_loopw [1, 2] (fun q i wr => ∃ (j t : Nat) (x : Int), j ≤ n ∧ i = .int .i64 x ∧ x + n = j ∧ q = .int .i64 t ∧ Hid (iter (rowba xs) j z = t) ∧ Below w.heap.size w wr ∧ At wr w.heap.size v) (fun _ i _ => (-(intOf i)).toNat)
          case atStart => exact ⟨0, z, _, Nat.zero_le _, rfl, by omega, rfl, hid rfl, HB1.out, HA1.out⟩
          case round =>
            obtain ⟨j, t, x, hj, rfl, hx, rfl, HT, hb, ha⟩ := hrel
            have hbox := ha.1
            have HB1 := hid hb
            have HA1 := hid ha
            have HX := hid hx
            clear hb ha
            by_cases hlt : x < 0
            · have ht : t < 2 ^ xs.length := by rw [← HT.out]; exact HL.out j
              have HT2 := hid ht
              have hxl : -1000 ≤ x := by omega
              clear ht hx
              go_wp2_with fail
              clear hbox
              refine (tgBack_any _ xs t _ (HV.out.below HB1.out) HG.out HT2.out).mono ?_
              rintro e' w' ⟨rfl, hb⟩
              have HB2 := hid (below_to HB1.out hb)
              have HA2 := hid (HA1.out.below hb)
              clear hb
              go_wp2
              go_roundw
              case rel => exact ⟨j + 1, _, x + 1, by have := HX.out; omega, rfl, by have := HX.out; omega, rfl, hid (by rw [iter, HT.out]), HB2.out, HA2.out⟩
              case measure => simp [intOf]; omega
            · have hjn : j = n := by omega
              subst hjn
              clear hx
              go_wp2
              go_ret2
              exact ⟨ret_ib (by rw [HAns.out, ← HT.out]) HO.out.symm, HB1.out⟩

/-! ### RowByToggles -/
def okRB (xs ys : List Int) (s : Int) : Bool := okIdeal xs s && orderB xs ys
def ansRB (xs ys : List Int) (s : Int) : Int := if okRB xs ys s then (togW xs s.toNat ys.reverse : Int) else 0
theorem okRB_no1 {xs ys : List Int} {s : Int} (h : okIdeal xs s = false) : okRB xs ys s = false := by simp [okRB, h]
theorem okRB_no2 {xs ys : List Int} {s : Int} (h : orderB xs ys = false) : okRB xs ys s = false := by simp [okRB, h]
theorem okRB_yes {xs ys : List Int} {s : Int} (h : okIdeal xs s = true) (k : orderB xs ys = true) : okRB xs ys s = true := by simp [okRB, h, k]
theorem ansRB_no {xs ys : List Int} {s : Int} (h : okRB xs ys s = false) : ansRB xs ys s = 0 := by simp [ansRB, h]
theorem ansRB_yes {xs ys : List Int} {z : Nat} (h : okRB xs ys z = true) : ansRB xs ys z = (togW xs z ys.reverse : Int) := by simp [ansRB, h]
theorem inW_reverse {n : Nat} {ys : List Int} (h : inW n ys = true) : inW n ys.reverse = true :=
  List.all_eq_true.2 fun y hy => List.all_eq_true.1 h y (List.mem_reverse.1 hy)
theorem reverse_getD (ys : List Int) (j : Nat) (hj : j < ys.length) : ys.reverse.getD j 0 = ys.getD (ys.length - 1 - j) 0 := by
  rw [List.getD_eq_getElem?_getD, List.getElem?_reverse hj, List.getD_eq_getElem?_getD]
set_option maxHeartbeats 1600000 in
theorem specRowByToggles_any (v : Value) (xs : List Int) (s : Int) (u : Value) (ys : List Int) (w : World) (hv : Ints w v xs) (hl : xs.length ≤ 1048576) (wf : (Lit.int .i64 s).wf = true) (hu : Ints w u ys) (hm : ys.length ≤ 1048576) :
    Calls Try.prog 20 #[.agg #[v], .int .i64 s, u] w fun r w' => r = .returned (.tuple #[.int .i64 (ansRB xs ys s), .bool (okRB xs ys s)]) ∧ Below w.heap.size w w' := by
  have HV := hid hv
  have HU := hid hu
  obtain ⟨A2, c2, rfl, hA2⟩ := hu
  have HA2 := hid hA2
  clear hv hA2 wf
  go_enter Try.func20, Try.ntmps20
  have HB := hid (below_alloc (Below.refl _ w) (.cells #[v] 28))
  have A0 := hid (At.newAt w v 28 w.heap.size (by simp))
  go_wp2_with fail
  refine (tgIn_any _ xs s _ (HV.out.below HB.out) hl).mono ?_
  rintro e w' ⟨rfl, hb⟩
  replace HB := hid (below_to HB.out hb)
  replace A0 := hid (A0.out.below hb)
  clear hb
  cases hq : okIdeal xs s
  · have HO := hid (okRB_no1 (ys := ys) hq)
    clear hq
    have ebox0 := A0.out.1
    go_wp2
    go_ret2
    exact ⟨ret_ib (ansRB_no HO.out).symm HO.out.symm, HB.out⟩
  · have HQ := hid hq
    clear hq
    obtain ⟨z, rfl, h3, h4, h5⟩ := okIdeal_all HQ.out
    have HG := hid h3
    have HN := hid h4
    clear h3 h4 h5
    have ebox0 := A0.out.1
    go_wp2_with fail
    clear ebox0
    refine (tgOrder_any _ _ xs ys _ (HV.out.below HB.out) (HU.out.below HB.out) HG.out hm).mono ?_
    rintro e w' ⟨rfl, hb⟩
    replace HB := hid (below_to HB.out hb)
    replace A0 := hid (A0.out.below hb)
    clear hb
    cases hk : orderB xs ys
    · have HO := hid (okRB_no2 (s := z) hk)
      clear hk
      have ebox0 := A0.out.1
      go_wp2
      go_ret2
      exact ⟨ret_ib (ansRB_no HO.out).symm HO.out.symm, HB.out⟩
    · have HO := hid (okRB_yes HQ.out hk)
      have HAns := hid (ansRB_yes HO.out)
      have HW := hid (orderB_word hk)
      clear hk
      have ebox0 := A0.out.1
      go_wp2
      go_loopw [1, 8] (fun q i wr => ∃ (j t : Nat) (x : Int), j ≤ ys.length ∧ i = .int .i64 x ∧ Hid (x + 1 + j = ys.length) ∧ q = .int .i64 t ∧ Hid (togW xs z (ys.reverse.take j) = t) ∧ Below w.heap.size w wr ∧ At wr w.heap.size v) (fun _ i _ => (intOf i + 1).toNat)
      case atStart => exact ⟨0, z, _, Nat.zero_le _, rfl, hid (by omega), rfl, hid rfl, HB.out, A0.out⟩
      case round =>
        obtain ⟨j, t, x, hj, rfl, HX, rfl, HT, hb, ha⟩ := hrel
        by_cases hlt : 0 ≤ x
        · obtain ⟨m, rfl⟩ := Int.eq_ofNat_of_zero_le hlt
          have hml : m < ys.length := by have := HX.out; omega
          obtain ⟨b, o, rfl, hbl, hc⟩ := HA2.out (by intro h; simp [h] at hml)
          have hcell : wr.cell? ⟨b, o + m, none⟩ = some (.int .i64 (ys.getD m 0)) := (hb.cell (p := ⟨b, o + m, none⟩) hbl).trans (hc m hml)
          have hin := inW_at HW.out.2 hml
          have hjl : j < ys.length := by have := HX.out; omega
          have HK := hid (togW_take xs z ys.reverse j (by rw [List.length_reverse]; exact hjl))
          have HR := hid (reverse_getD ys j hjl)
          have hjm : ys.length - 1 - j = m := by have := HX.out; omega
          have hl2 : togW xs z (ys.reverse.take j) < 2 ^ xs.length := togW_lt HN.out (inW_take j (inW_reverse HW.out.2))
          obtain ⟨y, hy⟩ : ∃ y, ys.getD m 0 = y := ⟨_, rfl⟩
          rw [hy] at hcell hin
          obtain ⟨e, rfl⟩ := Int.eq_ofNat_of_zero_le hin.1
          have HL := hid (show t < 2 ^ xs.length by rw [← HT.out]; exact hl2)
          have HY : Hid (ys.reverse.getD j 0 = (e : Int)) := hid (by rw [HR.out, hjm, hy])
          have HB1 := hid hb
          have HA1 := hid ha
          have he : e < xs.length := by omega
          have hbox := ha.1
          have hj2 : j + 1 ≤ ys.length := hjl
          clear hc hl2 hy hb ha hjm
          go_wp2_with fail
          go_region_with (go_at_call 50; refine (tgAt_any _ xs t e _ (HV.out.below HB1.out).drew HG.out HL.out he).mono ?_; rintro e' w' ⟨rfl, hb⟩; have HB2 := hid (below_to HB1.out.drew hb); have HA2 := hid (HA1.out.drew.below hb); clear hb)
          all_goals go_wp2
          all_goals go_roundw
          all_goals first | (show (_ : Nat) < _; simp [intOf]; done) | exact ⟨j + 1, _, (m : Int) - 1, hj2, rfl, hid (by have := HX.out; omega), rfl, hid (by rw [HK.out, HY.out, HT.out]; rfl), HB2.out, HA2.out⟩ | (simp [intOf]; omega)
        · have hjl : j = ys.length := by have := HX.out; omega
          subst hjl
          have HB1 := hid hb
          clear hb ha
          go_wp2
          go_ret2
          exact ⟨ret_ib (by rw [HAns.out, ← HT.out, ← List.length_reverse, List.take_length]) HO.out.symm, HB1.out⟩
set_option maxHeartbeats 1600000 in
theorem implRowByToggles_any (v : Value) (xs : List Int) (s : Int) (u : Value) (ys : List Int) (w : World) (hv : Ints w v xs) (hl : xs.length ≤ 1048576) (wf : (Lit.int .i64 s).wf = true) (hu : Ints w u ys) (hm : ys.length ≤ 1048576) :
    Calls Try.prog 22 #[.agg #[v], .int .i64 s, u] w fun r w' => r = .returned (.tuple #[.int .i64 (ansRB xs ys s), .bool (okRB xs ys s)]) ∧ Below w.heap.size w w' := by
  have HV := hid hv
  have HU := hid hu
  clear hv hu wf
  go_enter Try.func22, Try.ntmps22
  have HB := hid (below_alloc (Below.refl _ w) (.cells #[v] 28))
  have A0 := hid (At.newAt w v 28 w.heap.size (by simp))
  go_wp2_with fail
  refine (hasIdeal_any _ xs s _ (HV.out.below HB.out) hl).mono ?_
  rintro e w' ⟨rfl, hb⟩
  replace HB := hid (below_to HB.out hb)
  replace A0 := hid (A0.out.below hb)
  clear hb
  cases hq : okIdeal xs s
  · have HO := hid (okRB_no1 (ys := ys) hq)
    clear hq
    have ebox0 := A0.out.1
    go_wp2
    go_ret2
    exact ⟨ret_ib (ansRB_no HO.out).symm HO.out.symm, HB.out⟩
  · have HQ := hid hq
    clear hq
    obtain ⟨z, rfl, h3, h4, h5⟩ := okIdeal_all HQ.out
    have HG := hid h3
    have HN := hid h4
    clear h3 h4 h5
    have ebox0 := A0.out.1
    go_wp2_with fail
    clear ebox0
    refine (hasOrder_any _ _ xs ys _ (HV.out.below HB.out) (HU.out.below HB.out) HG.out hm).mono ?_
    rintro e w' ⟨rfl, hb⟩
    replace HB := hid (below_to HB.out hb)
    replace A0 := hid (A0.out.below hb)
    clear hb
    cases hk : orderB xs ys
    · have HO := hid (okRB_no2 (s := z) hk)
      clear hk
      have ebox0 := A0.out.1
      go_wp2
      go_ret2
      exact ⟨ret_ib (ansRB_no HO.out).symm HO.out.symm, HB.out⟩
    · have HO := hid (okRB_yes HQ.out hk)
      have HAns := hid (ansRB_yes HO.out)
      have HW := hid (inW_reverse (orderB_word hk).2)
      have hrl : ys.reverse.length ≤ 1048576 := by rw [List.length_reverse]; exact hm
      clear hk
      have ebox0 := A0.out.1
      go_wp2
      have hbx0 := A0.out.1
      go_region_with (first | (go_at_call 48; refine (undoneWord_any _ ys _ (HU.out.below HB.out).drew hm).mono ?_; rintro e w1 ⟨u1, rfl, hu1, hb1⟩; have H1 := hid (below_to HB.out.drew hb1); have HU1 := hid hu1; have hbx := (A0.out.drew.below hb1).1; clear hb1 hu1) | (go_at_call 113; refine (step_any _ _ xs ys.reverse z _ (HV.out.below H1.out) HU1.out HG.out HN.out HW.out hrl).mono ?_; rintro e w2 ⟨rfl, hb2⟩; have H2 := hid (below_to H1.out hb2); clear hb2))
      all_goals go_wp2
      all_goals go_ret2
      all_goals exact ⟨ret_ib HAns.out.symm HO.out.symm, H2.out⟩
end Go.Proofs.Ytbjidoihnbjjdab
