/- RowFixed: both sides. -/
import Derived.Test.YtnlehkjfidpdlabSvRow
import Derived.Test.YtnlehkjfidpdlabFixC
import Derived.Test.YtnlehkjfidpdlabTabS
import Derived.Test.YtnlehkjfidpdlabRect
namespace Go.Proofs.Ytnlehkjfidpdlab
open Go.RowKit Go.WideShapes Go.ChangeShapes
set_option linter.unusedVariables false

def okRF (a b d : Int) : Bool := sides a b && stB d
def ansRF (a b d : Int) : Int := if okRF a b d then ((fixN d.toNat (lensXs (rectL a b)) (lensXs (rectL a b)).length : Nat) : Int) else 0
theorem okRF_no1 {a b d : Int} (h : sides a b = false) : okRF a b d = false := by simp [okRF, h]
theorem okRF_no2 {a b d : Int} (h : stB d = false) : okRF a b d = false := by simp [okRF, h]
theorem okRF_yes {a b d : Int} (h : sides a b = true) (k : stB d = true) : okRF a b d = true := by simp [okRF, h, k]
theorem ansRF_no {a b d : Int} (h : okRF a b d = false) : ansRF a b d = 0 := by simp [ansRF, h]
theorem ansRF_yes {a b : Int} {d : Nat} (h : okRF a b d = true) : ansRF a b d = ((fixN d (lensXs (rectL a b)) (lensXs (rectL a b)).length : Nat) : Int) := by simp [ansRF, h]
theorem rectL_good {x y : Nat} (h : sides x y = true) (h1 : 1 ≤ x) (h2 : x ≤ 10) (h3 : 1 ≤ y) (h4 : y ≤ 10) (h5 : x * y ≤ 10) : good (rectL x y) = true := by rw [rectL_yes h]; exact rectGood h1 h2 h3 h4 h5
set_option maxHeartbeats 800000 in
theorem implRowFixed_any (a b d : Int) (w : World) (wa : (Lit.int .i64 a).wf = true) (wb : (Lit.int .i64 b).wf = true) (wd : (Lit.int .i64 d).wf = true) :
    Calls Try.prog 9 #[.int .i64 a, .int .i64 b, .int .i64 d] w fun r w' => r = .returned (.tuple #[.int .i64 (ansRF a b d), .bool (okRF a b d)]) ∧ Below w.heap.size w w' := by
  have HR := hid (implRectangle_any a b w wa wb)
  have HSt := hid (fun W => areSteps_any d W)
  cases hs : sides a b
  · have HO := hid (okRF_no1 (d := d) hs)
    rw [hs] at HR
    clear hs wa wb wd
    go_enter Try.func9, Try.ntmps9
    go_wp2_with fail
    refine HR.out.mono ?_
    rintro e w1 ⟨p, rfl, hp, -, hb⟩
    obtain ⟨pA, pn, pc, rfl⟩ := hp.shape3
    have HB := hid (below_alloc hb (.cells #[.slice pA pn pc] 35))
    clear hp hb
    go_wp2
    go_ret2
    exact ⟨ret_ib (ansRF_no HO.out).symm HO.out.symm, HB.out⟩
  · cases hd : stB d
    · have HO := hid (okRF_no2 (a := a) (b := b) hd)
      rw [hs] at HR
      rw [hd] at HSt
      clear hs hd wa wb wd
      go_enter Try.func9, Try.ntmps9
      go_wp2_with fail
      refine HR.out.mono ?_
      rintro e w1 ⟨p, rfl, hp, -, hb⟩
      obtain ⟨pA, pn, pc, rfl⟩ := hp.shape3
      have HB := hid (below_alloc hb (.cells #[.slice pA pn pc] 35))
      clear hp hb
      go_wp2_with fail
      refine (HSt.out _).mono ?_
      rintro e w2 ⟨rfl, rfl⟩
      go_wp2
      go_ret2
      exact ⟨ret_ib (ansRF_no HO.out).symm HO.out.symm, HB.out⟩
    · have HO := hid (okRF_yes hs hd)
      obtain ⟨x, y, rfl, rfl, h1, h2, h3, h4, h5⟩ := sides_nat hs
      obtain ⟨n, rfl, hn⟩ := stB_nat hd
      have hg := rectL_good hs h1 h2 h3 h4 h5
      have HAn := hid (ansRF_yes HO.out)
      have HFi := hid (fun v W (hW : Ints W v (rectL x y)) => implFixedIdeals_any v (rectL x y) (n : Int) W hW (rectL_length _ _) wd)
      have hok : okFI (rectL x y) (n : Int) = true := okFI_yes hg (by simp; omega)
      rw [hok, ansFI_yes hok] at HFi
      rw [hs] at HR
      rw [hd] at HSt
      clear hs hd wa wb wd hok hg
      go_enter Try.func9, Try.ntmps9
      go_wp2_with fail
      refine HR.out.mono ?_
      rintro e w1 ⟨p, rfl, hp, -, hb⟩
      obtain ⟨pA, pn, pc, rfl⟩ := hp.shape3
      have HB := hid (below_alloc hb (.cells #[.slice pA pn pc] 35))
      have HP := hid (hp.ints.alloc (.cells #[.slice pA pn pc] 35))
      have A4 := hid (At.new w1 (.slice pA pn pc) 35)
      obtain ⟨W1, hW1⟩ : ∃ W1 : World, W1 = w1.alloc (.cells #[.slice pA pn pc] 35) := ⟨_, rfl⟩
      rw [← hW1] at HB HP A4
      have t0 := A4.out.1
      rw [hW1] at t0
      clear hp hb
      go_wp2_with fail
      rw [← hW1]
      clear hW1 t0
      refine (HSt.out _).mono ?_
      rintro e w2 ⟨rfl, rfl⟩
      have t0 := A4.out.1
      go_wp2_with fail
      clear t0
      refine (HFi.out _ _ HP.out).mono ?_
      rintro e w2 ⟨rfl, hb⟩
      have HB2 := hid (below_to HB.out hb)
      clear hb
      go_wp2
      go_ret2
      exact ⟨ret_ib HAn.out.symm HO.out.symm, HB2.out⟩
set_option maxRecDepth 100000 in
set_option maxHeartbeats 1600000 in
theorem specRowFixed_any (a b d : Int) (w : World) (wa : (Lit.int .i64 a).wf = true) (wb : (Lit.int .i64 b).wf = true) (wd : (Lit.int .i64 d).wf = true) :
    Calls Try.prog 8 #[.int .i64 a, .int .i64 b, .int .i64 d] w fun r w' => r = .returned (.tuple #[.int .i64 (ansRF a b d), .bool (okRF a b d)]) ∧ Below w.heap.size w w' := by
  have HS := hid (fun W => shSides_any a b W)
  have HSt := hid (fun W => svTurn_any d W)
  clear wa wb wd
  cases hs : sides a b
  · have HO := hid (okRF_no1 (d := d) hs)
    rw [hs] at HS
    clear hs
    go_enter Try.func8, Try.ntmps8
    go_wp2_with fail
    refine (HS.out _).mono ?_
    rintro e w1 ⟨rfl, rfl⟩
    go_wp2
    go_ret2
    exact ⟨ret_ib (ansRF_no HO.out).symm HO.out.symm, Below.refl _ _⟩
  · cases hd : stB d
    · have HO := hid (okRF_no2 (a := a) (b := b) hd)
      rw [hs] at HS
      rw [hd] at HSt
      clear hs hd
      go_enter Try.func8, Try.ntmps8
      go_wp2_with fail
      refine (HS.out _).mono ?_
      rintro e w1 ⟨rfl, rfl⟩
      go_wp2_with fail
      refine (HSt.out _).mono ?_
      rintro e w1 ⟨rfl, rfl⟩
      go_wp2
      go_ret2
      exact ⟨ret_ib (ansRF_no HO.out).symm HO.out.symm, Below.refl _ _⟩
    · have HO := hid (okRF_yes hs hd)
      obtain ⟨x, y, rfl, rfl, h1, h2, h3, h4, h5⟩ := sides_nat hs
      obtain ⟨n, rfl, hn⟩ := stB_nat hd
      have hg := rectL_good hs h1 h2 h3 h4 h5
      have HAn := hid (ansRF_yes HO.out)
      have HFx := hid (fixC_fixN hg n)
      have HRe := hid (rectL_yes hs)
      have HLe := hid (fixC_le (rectL x y) n)
      have hl10 := (good_length hg).2
      have hN10 := two_pow_le _ hl10
      have hLen : (idNs (rectL x y)).length ≤ 1024 := by
        refine Nat.le_trans (List.length_filter_le _ _) ?_
        rw [List.length_range]; omega
      have HMem : Hid (∀ j, j < (idNs (rectL x y)).length → (idNs (rectL x y)).getD j 0 < 2 ^ (rectL x y).length ∧ holdsIdeal (rectL x y) ((idNs (rectL x y)).getD j 0) = true) := hid (fun j hj => by
        have hm : (idNs (rectL x y)).getD j 0 ∈ idNs (rectL x y) := by rw [List.getD_eq_getElem?_getD, List.getElem?_eq_getElem hj]; exact List.getElem_mem _
        unfold idNs at hm
        rw [List.mem_filter, List.mem_range] at hm
        exact hm)
      have HLt := hid (fun s k (hs : s < 2 ^ (rectL x y).length) => iter_lt (f := rowmo (rectL x y)) (m := 2 ^ (rectL x y).length) (fun s _ => rowmo_lt hg s) hs k)
      have HRo := hid (fun v W (hW : Ints W v (rectL x y)) s (hs : s < 2 ^ (rectL x y).length) => svRow_any v (rectL x y) s W hW hg hs)
      have HPi := hid (fun v W (hW : Ints W v (rectL x y)) => poIdeals_any v (rectL x y) W hW hg)
      have HSl : Hid (setsL (holdsIdeal (rectL x y)) (2 ^ (rectL x y).length) = intsN (idNs (rectL x y))) := hid rfl
      rw [HSl.out] at HPi
      rw [hs] at HS
      rw [hd] at HSt
      have HG := hid hg
      rw [← HRe.out] at HRe
      have HPo := hid (poRectangle_any x y · h1 h2 h3 h4 h5)
      rw [← rectL_yes hs] at HPo
      obtain ⟨xs, hxs⟩ : ∃ xs, rectL (x : Int) (y : Int) = xs := ⟨_, rfl⟩
      rw [hxs] at HFx HLe hLen HMem HLt HRo HPi HPo HAn HG
      obtain ⟨L, hL⟩ : ∃ L, idNs xs = L := ⟨_, rfl⟩
      rw [hL] at HFx hLen HMem HPi
      have HSy := hid (fun j s (e : L.getD j 0 = s) h => fixC_yes (xs := xs) (d := n) (j := j) (s := s) (by rw [hL]; exact e) h)
      have HSn := hid (fun j s (e : L.getD j 0 = s) h => fixC_no (xs := xs) (d := n) (j := j) (s := s) (by rw [hL]; exact e) h)
      obtain ⟨N, hN⟩ : ∃ N, 2 ^ xs.length = N := ⟨_, rfl⟩
      rw [hN] at HMem HLt HRo
      clear hs hd hg hxs hL hN HSl HRe hl10 hN10
      go_enter Try.func8, Try.ntmps8
      go_wp2_with fail
      refine (HS.out _).mono ?_
      rintro e w1 ⟨rfl, rfl⟩
      go_wp2_with fail
      refine (HSt.out _).mono ?_
      rintro e w1 ⟨rfl, rfl⟩
      go_wp2_with fail
      refine (HPo.out _).mono ?_
      rintro e w1 ⟨p, rfl, hp, hb⟩
      obtain ⟨pA, pn, pc, rfl⟩ := hp.shape3
      have HB := hid (below_alloc hb (.cells #[.slice pA pn pc] 35))
      have HP := hid (hp.ints.alloc (.cells #[.slice pA pn pc] 35))
      have A4 := hid (At.new w1 (.slice pA pn pc) 35)
      obtain ⟨W1, hW1⟩ : ∃ W1 : World, W1 = w1.alloc (.cells #[.slice pA pn pc] 35) := ⟨_, rfl⟩
      rw [← hW1] at HB HP A4
      have t0 := A4.out.1
      rw [hW1] at t0
      clear hp hb
      go_wp2_with fail
      rw [← hW1]
      clear hW1 t0
      refine (HPi.out _ _ HP.out).mono ?_
      rintro e w2 ⟨q, rfl, ho, hb⟩
      have HB2 := hid (below_to HB.out hb)
      have HP2 := hid (HP.out.below hb)
      have A5 := hid (A4.out.below hb)
      obtain ⟨A, c, rfl, hA⟩ := ho.ints
      rw [intsN_length] at hA ⊢
      have HA := hid hA
      clear ho hb hA
      go_wp2
      go_loopw [9, 29] (fun q i wr => ∃ j t : Nat, j ≤ L.length ∧ q = .int .i64 (t : Int) ∧ i = .int .i64 (j : Int) ∧ Hid (fixC xs n j = t) ∧ Below w2.heap.size w2 wr) (fun _ i _ => L.length - (intOf i).toNat)
      case atStart => exact ⟨0, 0, Nat.zero_le _, rfl, rfl, hid rfl, Below.refl _ _⟩
      case round =>
        obtain ⟨j, t, hj, rfl, rfl, HT, hb⟩ := hrel
        have HBr := hid hb
        by_cases hlt : j < L.length
        · obtain ⟨b1, o1, rfl, hbl1, hc1⟩ := HA.out (by intro h; have := congrArg List.length h; rw [intsN_length, List.length_nil] at this; omega)
          have hcell := (hb.cell (p := ⟨b1, o1 + j, none⟩) hbl1).trans (hc1 j hlt)
          rw [intsN_get hlt] at hcell
          have hbx := (A5.out.below hb).1
          have HMj := hid (HMem.out j hlt)
          have HY := hid (HSy.out j)
          have HN := hid (HSn.out j)
          obtain ⟨s, hs⟩ : ∃ s, L.getD j 0 = s := ⟨_, rfl⟩
          rw [hs] at hcell HMj
          have HSe := hid hs
          have htj := HLe.out j
          rw [HT.out] at htj
          have ht1024 : t ≤ 1024 := by omega
          have hj1 : j + 1 ≤ L.length := hlt
          clear hc1 hb hs htj
          obtain ⟨W3, hW3⟩ : ∃ x, x = wr := ⟨wr, rfl⟩
          rw [← hW3] at HBr hcell hbx ⊢
          clear hW3
          go_wp2
          clear hcell hbx
          go_loopw [12, 13] (fun q i wi => ∃ k z : Nat, k ≤ n ∧ q = .int .i64 (z : Int) ∧ i = .int .i64 (k : Int) ∧ Hid (iter (rowmo xs) k s = z) ∧ Below w2.heap.size w2 wi) (fun _ i _ => n - (intOf i).toNat)
          case atStart => exact ⟨0, s, Nat.zero_le _, rfl, rfl, hid rfl, HBr.out⟩
          case round =>
            obtain ⟨k, z, hk, rfl, rfl, HZ, hb⟩ := hrel
            have HBi := hid hb
            have hbx := (A5.out.below hb).1
            have hzl := HLt.out s k HMj.out.1
            rw [HZ.out] at hzl
            clear hb
            by_cases hkn : k < n
            · have HC := hid (HRo.out _ _ (HP2.out.below HBi.out) z hzl)
              have HI : Hid (iter (rowmo xs) (k + 1) s = rowmo xs z) := hid (by rw [iter, HZ.out])
              have hk1 : k + 1 ≤ n := hkn
              go_wp2_with fail
              clear hbx
              refine HC.out.mono ?_
              rintro e w4 ⟨rfl, hb⟩
              have HB4 := hid (below_to HBi.out hb)
              clear hb
              go_wp2
              go_roundw
              case rel => exact ⟨k + 1, _, hk1, rfl, by go_num, HI, HB4.out⟩
              case measure => simp [intOf]; omega
            · have hkn2 : k = n := by omega
              rw [hkn2] at HZ
              clear hbx hkn2
              by_cases hzs : z = s
              · have HS1 := hid (HY.out s HSe.out (by rw [HZ.out, hzs]))
                have hbn : ((z : Int) == (s : Int)) = true := by rw [hzs]; simp
                rw [HT.out] at HS1
                clear hzs
                go_wp2
                clear hbn
                go_roundw
                case rel => exact ⟨j + 1, t + 1, hj1, by go_num, by go_num, HS1, HBi.out⟩
                case measure => simp [intOf]; omega
              · have HS1 := hid (HN.out s HSe.out (by rw [HZ.out]; exact hzs))
                have hbn : ((z : Int) == (s : Int)) = false := by rw [beq_eq_false_iff_ne]; omega
                rw [HT.out] at HS1
                go_wp2
                clear hbn
                go_roundw
                case rel => exact ⟨j + 1, t, hj1, rfl, by go_num, HS1, HBi.out⟩
                case measure => simp [intOf]; omega
        · have HE : Hid (fixN n (lensXs xs) (lensXs xs).length = t) := hid (by rw [← HFx.out, ← HT.out, show j = L.length by omega])
          go_wp2
          go_ret2
          exact ⟨ret_ib (by rw [HAn.out, HE.out]) HO.out.symm, below_to HB2.out HBr.out⟩
end Go.Proofs.Ytnlehkjfidpdlab
