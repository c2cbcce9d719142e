/- The model's tableaux: linear extensions, words, descents. -/
import Derived.Test.YtbbkoagjplapkaaTabG
namespace Go.Proofs.Ytbbkoagjplapkaa
open Go.RowKit Go.WideShapes Go.ChangeShapes
set_option linter.unusedVariables false

theorem specIsTableau_any (v : Value) (ls : List (List Int)) (w : World) (hv : IntsSS w v ls) (hs : SSmall ls) :
    Calls Try.prog 16 #[v] w fun r w' => r = .returned (.bool (tabB ls)) ∧ Below w.heap.size w w' := by
  have HP := hid (shGood_any v ls w hv hs)
  clear hv hs
  go_enter Try.func16, Try.ntmps16
  go_wp2_with fail
  refine HP.out.mono ?_
  rintro e w' ⟨rfl, rfl⟩
  go_wp2
  go_ret
  exact ⟨rfl, Below.refl _ _⟩
set_option maxHeartbeats 1600000 in
theorem shLinear_any (v : Value) (ls : List (List Int)) (w : World) (hv : IntsSS w v ls) (ht : tabB ls = true) :
    Calls Try.prog 60 #[v] w fun (r : Ending) w' => ∃ u, r = Ending.returned u ∧ OwnI 3 w' w.heap.size u (linT ls) ∧ Below w.heap.size w w' := by
  have hL := (tabB_all ht).1
  have HG := hid (GridR.of hv hL)
  have HFin := hid (linT_wrt ht)
  have HRng := hid (fun e he => (tabB_all ht).2.rng e he)
  have a1 := hL.a1
  have a2 := hL.a2
  have b1 := hL.b1
  have b2 := hL.b2
  have hn10 := hL.n
  obtain ⟨f, hf⟩ : ∃ f, celF ls (wid ls) = f := ⟨_, rfl⟩
  have HF : Hid (∀ r c, c < wid ls → cel ls r c = f (wid ls * r + c)) := hid (fun r c hc => by rw [← hf, celF_at ls hc])
  rw [hf] at HFin HRng
  obtain ⟨b, hb⟩ : ∃ b, wid ls = b := ⟨_, rfl⟩
  obtain ⟨a, ha⟩ : ∃ a, ls.length = a := ⟨_, rfl⟩
  rw [hb] at HG HFin HRng HF b1 b2 hn10
  rw [ha] at HG HFin HRng a1 a2 hn10
  obtain ⟨n, hn⟩ : ∃ n, a * b = n := ⟨_, rfl⟩
  rw [hn] at HFin HRng hn10
  have e1 : (a : Int) * (b : Int) = (n : Int) := by rw [← Int.natCast_mul, hn]
  have HN := hid hn
  have HG0 := HG
  obtain ⟨ab, ao, cv, rfl, hab, hrows⟩ := HG.out
  have HR := hid hrows
  obtain ⟨g0, o0, c0, hc0, -, -⟩ := hrows 0 (by omega)
  rw [Nat.add_zero] at hc0
  have hmk := run_make_row' (P := Try.prog) 27 3 (.int .i64 0) 8 Try.underlying27 Try.info3 rfl .i64 .i64 n (by omega) (by omega)
  have hlp : (0 : Int) < (a : Int) := by omega
  clear hf hb ha hn hrows hv ht hL HG
  go_enter Try.func60, Try.ntmps60
  go_wp2
  clear hmk e1 hc0 hlp
  rw [Vals_made]
  go_loopw [20] (fun i wr => ∃ r : Nat, r ≤ a ∧ i = .int .i64 r ∧ Blk wr w.heap.size 3 (Vals (wrt 0 f (fun e => (e : Int)) n (b * r))) ∧ Below w.heap.size w wr) (fun i _ => a - (intOf i).toNat)
  case atStart => exact ⟨0, Nat.zero_le _, rfl, Blk.new w _ _, below_alloc (Below.refl _ w) _⟩
  case round =>
    obtain ⟨r, hr, rfl, hB, hb⟩ := hrel
    have HB := hid hB
    have Hb := hid hb
    clear hB hb
    by_cases hlt : r < a
    · obtain ⟨g, o, c, hc, hgl, hcells⟩ := HR.out r hlt
      have hcr := (Hb.out.cell (p := ⟨ab, ao + r, none⟩) hab).trans hc
      have HC := hid hcells
      obtain ⟨q, hq⟩ : ∃ q, b * r = q := ⟨_, rfl⟩
      have hqm : (b : Int) * (r : Int) = (q : Int) := by rw [← Int.natCast_mul, hq]
      have HQ := hid hq
      have HQn : Hid (∀ j, j < b → q + j < n) := hid (fun j hj => by rw [← HQ.out, ← HN.out]; exact cell_lt hlt hj)
      have hq10 : q ≤ 10 := by have := HQn.out 0 (by omega); omega
      clear hc hcells hq
      go_wp2
      clear hcr
      go_loopw [27] (fun i wi => ∃ c : Nat, c ≤ b ∧ i = .int .i64 c ∧ Blk wi w.heap.size 3 (Vals (wrt 0 f (fun e => (e : Int)) n (q + c))) ∧ Below w.heap.size w wi) (fun i _ => b - (intOf i).toNat)
      case atStart => exact ⟨0, Nat.zero_le _, rfl, (by rw [Nat.add_zero, ← HQ.out]; exact HB.out), Hb.out⟩
      case round =>
        obtain ⟨k, hk, rfl, hB, hb⟩ := hrel
        obtain ⟨wi, rfl⟩ : ∃ x, x = wr := ⟨wr, rfl⟩
        have HB2 := hid hB
        have Hb2 := hid hb
        clear hB hb
        by_cases hkb : k < b
        · have hck := (Hb2.out.cell (p := ⟨g, o + k, none⟩) hgl).trans (HC.out k hkb)
          rw [HF.out r k hkb, HQ.out] at hck
          have hkn := HQn.out k hkb
          have hrg := HRng.out (q + k) hkn
          obtain ⟨y, hy⟩ := Int.eq_ofNat_of_zero_le hrg.1
          rw [hy] at hck hrg
          have HY := hid hy
          have hyn : y < n := by omega
          have hcy : wi.cell? ⟨w.heap.size, y, none⟩ = some (.int .i64 ((wrt 0 f (fun e => (e : Int)) n (q + k)).getD y 0)) := by
            rw [HB2.out.cell, Vals_get (by rw [wrt_length]; exact hyn)]
          obtain ⟨z, hz⟩ : ∃ z, (wrt 0 f (fun e => (e : Int)) n (q + k)).getD y 0 = z := ⟨_, rfl⟩
          rw [hz] at hcy
          have hft := HB2.out.frozen y
          clear hy hz
          go_wp2
          go_roundw
          case rel => exact ⟨k + 1, by omega, by go_num, (by rw [← Nat.add_assoc, wrt, HY.out, ← Vals_set, Int.toNat_natCast]; exact HB2.out.set_ y _), Hb2.out.setCell (Nat.le_refl _) _⟩
          case measure => simp [intOf]; omega
        · have Hkb := hid (show k = b by omega)
          have hkb' : ¬ (k : Int) < (b : Int) := by omega
          clear hkb hqm
          go_wp2
          go_roundw
          case rel => exact ⟨r + 1, by omega, by go_num, (by have h := HB2.out; rw [Hkb.out] at h; rw [Nat.mul_succ, HQ.out]; exact h), Hb2.out⟩
          case measure => simp [intOf]; omega
    · obtain rfl : r = a := by omega
      have HO : Hid (OwnI 3 wr w.heap.size (.slice (some ⟨w.heap.size, 0, none⟩) n n) (linT ls)) := hid (by
        have h1 := HB.out
        rw [Nat.mul_comm, HN.out, HFin.out] at h1
        have h2 := h1.own (B := w.heap.size) (xs := linT ls) (Nat.le_refl _) (by rw [← HFin.out, wrt_length]; omega)
        rw [← HFin.out, wrt_length] at h2
        rw [← HFin.out]; exact h2)
      clear HB
      go_wp2
      go_ret
      exact ⟨_, rfl, HO.out, Hb.out⟩
set_option maxHeartbeats 1600000 in
theorem shWord_any (v : Value) (ls : List (List Int)) (w : World) (hv : IntsSS w v ls) (ht : tabB ls = true) :
    Calls Try.prog 77 #[v] w fun (r : Ending) w' => ∃ u, r = Ending.returned u ∧ OwnI 3 w' w.heap.size u (wrdL ls) ∧ Below w.heap.size w w' := by
  have hL := (tabB_all ht).1
  have HG := hid (GridR.of hv hL)
  have HFin := hid (wrdL_wrt ht)
  have HRng := hid (fun e he => (tabB_all ht).2.rng e he)
  have a1 := hL.a1
  have a2 := hL.a2
  have b1 := hL.b1
  have b2 := hL.b2
  have hn10 := hL.n
  obtain ⟨f, hf⟩ : ∃ f, celF ls (wid ls) = f := ⟨_, rfl⟩
  have HF : Hid (∀ r c, c < wid ls → cel ls r c = f (wid ls * r + c)) := hid (fun r c hc => by rw [← hf, celF_at ls hc])
  rw [hf] at HFin HRng
  obtain ⟨b, hb⟩ : ∃ b, wid ls = b := ⟨_, rfl⟩
  obtain ⟨a, ha⟩ : ∃ a, ls.length = a := ⟨_, rfl⟩
  rw [hb] at HG HFin HRng HF b1 b2 hn10
  rw [ha] at HG HFin HRng a1 a2 hn10
  obtain ⟨n, hn⟩ : ∃ n, a * b = n := ⟨_, rfl⟩
  rw [hn] at HFin HRng hn10
  have e1 : (a : Int) * (b : Int) = (n : Int) := by rw [← Int.natCast_mul, hn]
  have HN := hid hn
  have HG0 := HG
  obtain ⟨ab, ao, cv, rfl, hab, hrows⟩ := HG.out
  have HR := hid hrows
  obtain ⟨g0, o0, c0, hc0, -, -⟩ := hrows 0 (by omega)
  rw [Nat.add_zero] at hc0
  have hmk := run_make_row' (P := Try.prog) 27 3 (.int .i64 0) 8 Try.underlying27 Try.info3 rfl .i64 .i64 n (by omega) (by omega)
  have hlp : (0 : Int) < (a : Int) := by omega
  clear hf hb ha hn hrows hv ht hL HG
  go_enter Try.func77, Try.ntmps77
  go_wp2
  clear hmk e1 hc0 hlp
  rw [Vals_made]
  go_loopw [18] (fun i wr => ∃ r : Nat, r ≤ a ∧ i = .int .i64 r ∧ Blk wr w.heap.size 3 (Vals (wrt 0 f (fun e => ((e / b : Nat) : Int)) n (b * r))) ∧ Below w.heap.size w wr) (fun i _ => a - (intOf i).toNat)
  case atStart => exact ⟨0, Nat.zero_le _, rfl, Blk.new w _ _, below_alloc (Below.refl _ w) _⟩
  case round =>
    obtain ⟨r, hr, rfl, hB, hb⟩ := hrel
    have HB := hid hB
    have Hb := hid hb
    clear hB hb
    by_cases hlt : r < a
    · obtain ⟨g, o, c, hc, hgl, hcells⟩ := HR.out r hlt
      have hcr := (Hb.out.cell (p := ⟨ab, ao + r, none⟩) hab).trans hc
      have HC := hid hcells
      obtain ⟨q, hq⟩ : ∃ q, b * r = q := ⟨_, rfl⟩
      have hqm : (b : Int) * (r : Int) = (q : Int) := by rw [← Int.natCast_mul, hq]
      have HQ := hid hq
      have HDv : Hid (∀ j, j < b → (q + j) / b = r) := hid (fun j hj => by rw [← hq, Nat.mul_add_div (by omega), Nat.div_eq_of_lt hj, Nat.add_zero])
      have HQn : Hid (∀ j, j < b → q + j < n) := hid (fun j hj => by rw [← HQ.out, ← HN.out]; exact cell_lt hlt hj)
      have hq10 : q ≤ 10 := by have := HQn.out 0 (by omega); omega
      clear hc hcells hq
      go_wp2
      clear hcr
      go_loopw [25] (fun i wi => ∃ c : Nat, c ≤ b ∧ i = .int .i64 c ∧ Blk wi w.heap.size 3 (Vals (wrt 0 f (fun e => ((e / b : Nat) : Int)) n (q + c))) ∧ Below w.heap.size w wi) (fun i _ => b - (intOf i).toNat)
      case atStart => exact ⟨0, Nat.zero_le _, rfl, (by rw [Nat.add_zero, ← HQ.out]; exact HB.out), Hb.out⟩
      case round =>
        obtain ⟨k, hk, rfl, hB, hb⟩ := hrel
        obtain ⟨wi, rfl⟩ : ∃ x, x = wr := ⟨wr, rfl⟩
        have HB2 := hid hB
        have Hb2 := hid hb
        clear hB hb
        by_cases hkb : k < b
        · have hck := (Hb2.out.cell (p := ⟨g, o + k, none⟩) hgl).trans (HC.out k hkb)
          rw [HF.out r k hkb, HQ.out] at hck
          have hkn := HQn.out k hkb
          have hrg := HRng.out (q + k) hkn
          obtain ⟨y, hy⟩ := Int.eq_ofNat_of_zero_le hrg.1
          rw [hy] at hck hrg
          have HY := hid hy
          have hyn : y < n := by omega
          have hcy : wi.cell? ⟨w.heap.size, y, none⟩ = some (.int .i64 ((wrt 0 f (fun e => ((e / b : Nat) : Int)) n (q + k)).getD y 0)) := by
            rw [HB2.out.cell, Vals_get (by rw [wrt_length]; exact hyn)]
          obtain ⟨z, hz⟩ : ∃ z, (wrt 0 f (fun e => ((e / b : Nat) : Int)) n (q + k)).getD y 0 = z := ⟨_, rfl⟩
          rw [hz] at hcy
          have hft := HB2.out.frozen y
          clear hy hz
          go_wp2
          go_roundw
          case rel => exact ⟨k + 1, by omega, by go_num, (by rw [← Nat.add_assoc, wrt, HY.out, ← Vals_set, Int.toNat_natCast, HDv.out k hkb]; exact HB2.out.set_ y _), Hb2.out.setCell (Nat.le_refl _) _⟩
          case measure => simp [intOf]; omega
        · have Hkb := hid (show k = b by omega)
          have hkb' : ¬ (k : Int) < (b : Int) := by omega
          clear hkb hqm
          go_wp2
          go_roundw
          case rel => exact ⟨r + 1, by omega, by go_num, (by have h := HB2.out; rw [Hkb.out] at h; rw [Nat.mul_succ, HQ.out]; exact h), Hb2.out⟩
          case measure => simp [intOf]; omega
    · obtain rfl : r = a := by omega
      have HO : Hid (OwnI 3 wr w.heap.size (.slice (some ⟨w.heap.size, 0, none⟩) n n) (wrdL ls)) := hid (by
        have h1 := HB.out
        rw [Nat.mul_comm, HN.out, HFin.out] at h1
        have h2 := h1.own (B := w.heap.size) (xs := wrdL ls) (Nat.le_refl _) (by rw [← HFin.out, wrt_length]; omega)
        rw [← HFin.out, wrt_length] at h2
        rw [← HFin.out]; exact h2)
      clear HB
      go_wp2
      go_ret
      exact ⟨_, rfl, HO.out, Hb.out⟩
theorem specLinearOf_any (v : Value) (ls : List (List Int)) (w : World) (hv : IntsSS w v ls) (hs : SSmall ls) :
    Calls Try.prog 27 #[v] w fun (r : Ending) w' => ∃ u, r = Ending.returned (.tuple #[u, .bool (tabB ls)]) ∧ OwnI 3 w' w.heap.size u (ansLT ls) ∧ (ansLT ls).length ≤ 1048576 ∧ Below w.heap.size w w' := by
  have HP := hid (shGood_any v ls w hv hs)
  have HV := hid hv
  have HL := hid (ansLT_length ls)
  clear hv hs
  go_enter Try.func27, Try.ntmps27
  go_wp2_with fail
  refine HP.out.mono ?_
  rintro e w' ⟨rfl, rfl⟩
  cases hq : tabB ls
  · have HQ := hid hq
    clear hq
    go_wp2
    go_ret2
    exact ⟨_, ret_vbT HQ.out.symm, by rw [ansLT_no HQ.out]; exact OwnI.nil _ _ _, HL.out, Below.refl _ _⟩
  · have HQ := hid hq
    clear hq
    go_wp2_with fail
    refine (shLinear_any v ls _ HV.out HQ.out).mono ?_
    rintro e w' ⟨u, rfl, ho, hb⟩
    obtain ⟨uA, un, uc, rfl⟩ := ho.shape3
    have HO := hid ho
    have HB := hid hb
    clear ho hb
    go_wp2
    go_ret2
    exact ⟨_, ret_vbT HQ.out.symm, by rw [ansLT_yes HQ.out]; exact HO.out, HL.out, HB.out⟩
theorem specLatticeWord_any (v : Value) (ls : List (List Int)) (w : World) (hv : IntsSS w v ls) (hs : SSmall ls) :
    Calls Try.prog 44 #[v] w fun (r : Ending) w' => ∃ u, r = Ending.returned (.tuple #[u, .bool (tabB ls)]) ∧ OwnI 3 w' w.heap.size u (ansLW ls) ∧ (ansLW ls).length ≤ 1048576 ∧ Below w.heap.size w w' := by
  have HP := hid (shGood_any v ls w hv hs)
  have HV := hid hv
  have HL := hid (ansLW_length ls)
  clear hv hs
  go_enter Try.func44, Try.ntmps44
  go_wp2_with fail
  refine HP.out.mono ?_
  rintro e w' ⟨rfl, rfl⟩
  cases hq : tabB ls
  · have HQ := hid hq
    clear hq
    go_wp2
    go_ret2
    exact ⟨_, ret_vbT HQ.out.symm, by rw [ansLW_no HQ.out]; exact OwnI.nil _ _ _, HL.out, Below.refl _ _⟩
  · have HQ := hid hq
    clear hq
    go_wp2_with fail
    refine (shWord_any v ls _ HV.out HQ.out).mono ?_
    rintro e w' ⟨u, rfl, ho, hb⟩
    obtain ⟨uA, un, uc, rfl⟩ := ho.shape3
    have HO := hid ho
    have HB := hid hb
    clear ho hb
    go_wp2
    go_ret2
    exact ⟨_, ret_vbT HQ.out.symm, by rw [ansLW_yes HQ.out]; exact HO.out, HL.out, HB.out⟩
set_option maxHeartbeats 1600000 in
theorem shDescents_any (v : Value) (ls : List (List Int)) (w : World) (hv : IntsSS w v ls) (ht : tabB ls = true) :
    Calls Try.prog 72 #[v] w fun (r : Ending) w' => ∃ u, r = Ending.returned u ∧ OwnI 3 w' w.heap.size u (desL ls) ∧ Below w.heap.size w w' := by
  have HV := hid hv
  have HT := hid ht
  have HK := hid (fun k hk => rowK_lt ht (k := k) hk)
  have hL := (tabB_all ht).1
  have hn10 := hL.n
  have ha10 := hL.a2
  have hn1 : 1 ≤ ls.length * wid ls := Nat.mul_pos hL.a1 hL.b1
  have HWd : Hid (wrdL ls = mkL (ls.length * wid ls) (rowK ls)) := hid rfl
  have HDs : Hid (desL ls = desN (rowK ls) (ls.length * wid ls)) := hid rfl
  obtain ⟨n, hn⟩ : ∃ n, ls.length * wid ls = n := ⟨_, rfl⟩
  rw [hn] at HWd HDs hn10 hn1 HK
  clear hv ht hL hn
  go_enter Try.func72, Try.ntmps72
  go_wp2_with fail
  refine (shWord_any v ls _ HV.out HT.out).mono ?_
  rintro e w1 ⟨u, rfl, ho, hb⟩
  rw [HWd.out] at ho
  obtain ⟨uA, uc, hsh, hA⟩ := ho.ints
  rw [mkL_length] at hsh
  subst hsh
  obtain ⟨g, o, rfl, hgl, hcells⟩ := hA (by intro h; have := congrArg List.length h; rw [mkL_length] at this; simp at this; omega)
  have HC : Hid (∀ j, j < n → w1.cell? ⟨g, o + j, none⟩ = some (.int .i64 (rowK ls j : Nat))) := hid (fun j hj => by rw [hcells j (by rw [mkL_length]; exact hj), mkL_getD hj])
  have HB := hid hb
  clear ho hb hA hcells
  go_wp2
  go_loopw [3, 5] (fun out i wr => ∃ k : Nat, 1 ≤ k ∧ k ≤ n ∧ i = .int .i64 k ∧ OwnI 3 wr w1.heap.size out (desN (rowK ls) k) ∧ Below w1.heap.size w1 wr) (fun _ i _ => n - (intOf i).toNat)
  case atStart => exact ⟨1, Nat.le_refl _, hn1, rfl, by rw [desN_one]; exact OwnI.nil _ _ _, Below.refl _ _⟩
  case round =>
    obtain ⟨k, hk1, hk, rfl, ho, hb⟩ := hrel
    have HO := hid ho
    have Hb := hid hb
    obtain ⟨oA, oc, rfl, -⟩ := ho.shape
    have hbz := hb.size
    have hdl := desN_length (rowK ls) k
    obtain ⟨D, hD⟩ : ∃ D, desN (rowK ls) k = D := ⟨_, rfl⟩
    rw [hD] at HO hdl ⊢
    have HD := hid hD
    clear ho hb hD
    by_cases hlt : k < n
    · obtain ⟨p, hp⟩ : ∃ p, k - 1 = p := ⟨_, rfl⟩
      have hpi : (k : Int) - 1 = (p : Int) := by omega
      have hpn : p < n := by omega
      have hc1 := (Hb.out.cell (p := ⟨g, o + k, none⟩) hgl).trans (HC.out k hlt)
      have hc2 := (Hb.out.cell (p := ⟨g, o + p, none⟩) hgl).trans (HC.out p hpn)
      have HY := hid (fun h => desN_yes (g := rowK ls) hk1 h)
      have HN := hid (fun h => desN_no (g := rowK ls) (k := k) h)
      have hr1 := HK.out k hlt
      have hr2 := HK.out p hpn
      rw [hp] at HY HN
      obtain ⟨x, hx⟩ : ∃ x, rowK ls k = x := ⟨_, rfl⟩
      obtain ⟨y, hy⟩ : ∃ y, rowK ls p = y := ⟨_, rfl⟩
      rw [hx] at hc1 hr1 HY HN
      rw [hy] at hc2 hr2 HY HN
      have wk : IntKind.i64.wrap (p : Int) = (p : Int) := IntWalk.i64_in _ (by omega)
      clear hp hx hy
      by_cases hgt : y < x
      · have HE := hid (HY.out hgt)
        have hgt' : decide ((y : Int) < (x : Int)) = true := by simp; omega
        have hgtI := hgt
        go_wp2
        go_quiet (fail)
        go_wp2_with (at_builtin; refine wpList_append_int rfl _ _ 27 3 rfl Try.underlying27 Try.info3 w1.heap.size _ D (k : Int) rfl ((HO.out.below (Go.Joins.below_draws _ _ _))) rfl rfl (by omega) hbz ?_; intro v3 w3 ho3 hb3)
        go_roundw
        case rel => exact ⟨k + 1, by omega, by omega, by go_num, (by rw [HE.out, HD.out]; exact ho3), (Hb.out.trans (Go.Joins.below_draws _ _ _)).trans hb3⟩
        case measure => simp [intOf]; omega
      · have HE := hid (HN.out hgt)
        have hgt' : decide ((y : Int) < (x : Int)) = false := by simp; omega
        have hgtI := hgt
        go_wp2
        go_quiet (fail)
        go_wp2
        go_roundw
        case rel => exact ⟨k + 1, by omega, by omega, by go_num, (by rw [HE.out, HD.out]; exact (HO.out.below (Go.Joins.below_draws _ _ _))), Hb.out.trans (Go.Joins.below_draws _ _ _)⟩
        case measure => simp [intOf]; omega
    · obtain rfl : k = n := by omega
      go_wp2
      go_ret
      exact ⟨_, rfl, by rw [HDs.out, HD.out]; exact HO.out.mono HB.out.size, below_to HB.out Hb.out⟩
set_option maxHeartbeats 800000 in
theorem shMajor_any (v : Value) (ls : List (List Int)) (w : World) (hv : IntsSS w v ls) (ht : tabB ls = true) :
    Calls Try.prog 74 #[v] w fun (r : Ending) w' => r = .returned (.int .i64 (ansMA ls)) ∧ Below w.heap.size w w' := by
  have HV := hid hv
  have HT := hid ht
  have HDe := hid (ansDE_yes ht)
  have HA : Hid (ansMA ls = sumK (ansDE ls) (ansDE ls).length) := hid rfl
  have hdl := ansDE_length ls
  have HLe := hid (fun k hk => sumK_le (l := ansDE ls) (fun j hj => ansDE_at ls hj) k hk)
  have HAt := hid (fun j hj => ansDE_at ls (j := j) hj)
  clear hv ht
  go_enter Try.func74, Try.ntmps74
  go_wp2_with fail
  refine (shDescents_any v ls _ HV.out HT.out).mono ?_
  rintro e w1 ⟨u, rfl, ho, hb⟩
  rw [← HDe.out] at ho
  obtain ⟨L, hL⟩ : ∃ L, ansDE ls = L := ⟨_, rfl⟩
  rw [hL] at ho HA hdl HLe HAt
  obtain ⟨uA, uc, rfl, hA⟩ := ho.ints
  have HI := hid hA
  have HB := hid hb
  clear ho hb hA hL
  go_wp2
  go_loopw [3, 9] (fun q i wr => ∃ k : Nat, k ≤ L.length ∧ i = .int .i64 k ∧ q = .int .i64 (sumK L k) ∧ Below w1.heap.size w1 wr) (fun _ i _ => L.length - (intOf i).toNat)
  case atStart => exact ⟨0, Nat.zero_le _, rfl, rfl, Below.refl _ _⟩
  case round =>
    obtain ⟨k, hk, rfl, rfl, hb⟩ := hrel
    have Hb := hid hb
    clear hb
    by_cases hlt : k < L.length
    · obtain ⟨g, o, rfl, hgl, hcells⟩ := HI.out (by intro h; simp [h] at hlt)
      have hc := (Hb.out.cell (p := ⟨g, o + k, none⟩) hgl).trans (hcells k hlt)
      have h1 := HLe.out k (by omega)
      have h2 := HAt.out k hlt
      have HS : Hid (sumK L (k + 1) = sumK L k + L.getD k 0) := hid rfl
      obtain ⟨x, hx⟩ : ∃ x, L.getD k 0 = x := ⟨_, rfl⟩
      obtain ⟨y, hy⟩ : ∃ y, sumK L k = y := ⟨_, rfl⟩
      rw [hx] at hc h2 HS
      rw [hy] at h1 HS
      rw [hy]
      clear hcells hx hy
      go_wp2
      go_roundw
      case rel => exact ⟨k + 1, by omega, by go_num, by rw [HS.out], Hb.out⟩
      case measure => simp [intOf]; omega
    · have Hk := hid (show k = L.length by omega)
      have hlt' : ¬ (k : Int) < (L.length : Int) := by omega
      clear hlt
      go_wp2
      go_ret
      exact ⟨ret_int (by rw [HA.out, Hk.out]), below_to HB.out Hb.out⟩
theorem specMajorOf_any (v : Value) (ls : List (List Int)) (w : World) (hv : IntsSS w v ls) (hs : SSmall ls) :
    Calls Try.prog 40 #[v] w fun r w' => r = .returned (.tuple #[.int .i64 (ansMA ls), .bool (tabB ls)]) ∧ Below w.heap.size w w' := by
  have HP := hid (shGood_any v ls w hv hs)
  have HV := hid hv
  clear hv hs
  go_enter Try.func40, Try.ntmps40
  go_wp2_with fail
  refine HP.out.mono ?_
  rintro e w' ⟨rfl, rfl⟩
  cases hq : tabB ls
  · have HQ := hid hq
    clear hq
    go_wp2
    go_ret2
    exact ⟨ret_ibT (ansMA_no HQ.out).symm HQ.out.symm, Below.refl _ _⟩
  · have HQ := hid hq
    clear hq
    go_wp2_with fail
    refine (shMajor_any v ls _ HV.out HQ.out).mono ?_
    rintro e w' ⟨rfl, hb⟩
    have HB := hid hb
    clear hb
    go_wp2
    go_ret2
    exact ⟨ret_ibT rfl HQ.out.symm, HB.out⟩
theorem specDescentsOf_any (v : Value) (ls : List (List Int)) (w : World) (hv : IntsSS w v ls) (hs : SSmall ls) :
    Calls Try.prog 38 #[v] w fun (r : Ending) w' => ∃ u, r = Ending.returned (.tuple #[u, .bool (tabB ls)]) ∧ OwnI 3 w' w.heap.size u (ansDE ls) ∧ (ansDE ls).length ≤ 1048576 ∧ Below w.heap.size w w' := by
  have HP := hid (shGood_any v ls w hv hs)
  have HV := hid hv
  have HL := hid ((Nat.le_trans (ansDE_length ls) (by decide) : (ansDE ls).length ≤ 1048576))
  clear hv hs
  go_enter Try.func38, Try.ntmps38
  go_wp2_with fail
  refine HP.out.mono ?_
  rintro e w' ⟨rfl, rfl⟩
  cases hq : tabB ls
  · have HQ := hid hq
    clear hq
    go_wp2
    go_ret2
    exact ⟨_, ret_vbT HQ.out.symm, by rw [ansDE_no HQ.out]; exact OwnI.nil _ _ _, HL.out, Below.refl _ _⟩
  · have HQ := hid hq
    clear hq
    go_wp2_with fail
    refine (shDescents_any v ls _ HV.out HQ.out).mono ?_
    rintro e w' ⟨u, rfl, ho, hb⟩
    obtain ⟨uA, un, uc, rfl⟩ := ho.shape3
    have HO := hid ho
    have HB := hid hb
    clear ho hb
    go_wp2
    go_ret2
    exact ⟨_, ret_vbT HQ.out.symm, by rw [ansDE_yes HQ.out]; exact HO.out, HL.out, HB.out⟩
end Go.Proofs.Ytbbkoagjplapkaa
