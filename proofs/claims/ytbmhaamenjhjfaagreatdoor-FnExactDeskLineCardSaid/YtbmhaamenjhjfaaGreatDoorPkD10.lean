/- RvS Tg3 RvT RvW RvG RvU -/
import Derived.RegionTactic
import Derived.Deep.AppendLies
import Derived.Deep.RegionHeld3
import Derived.Test.YtbmhaamenjhjfaaGreatDoorPkD09
namespace Go.Proofs.YtbmhaamenjhjfaaGreatDoor
open Go.RowKit Go.WideShapes Go.ChangeShapes
set_option linter.unusedVariables false
theorem OwnI.storedR {e : TypeId} {w : World} {B g n c : Nat} {xs : List Int} (h : OwnI e w B (.slice (some ⟨g, 0, none⟩) n c) xs) (j : Nat) (y : Int) : OwnI e (w.setCell ⟨g, j, none⟩ (.int .i64 y)) B (.slice (some ⟨g, 0, none⟩) n c) (xs.set j y) := by
  obtain ⟨A, c', e', -⟩ := h.shape
  injection e' with e1 e2 e3
  subst e2
  have h' : w.ownsRow B e 1 (.slice (some ⟨g, 0, none⟩) xs.length c) xs.length (xs.map (Value.int .i64)) := h
  have := (h'.stored j (.int .i64 y)).1
  unfold OwnI
  rw [List.length_set, List.map_set]
  exact this
theorem OwnI.cellR {e : TypeId} {w : World} {B g n c : Nat} {xs : List Int} (h : OwnI e w B (.slice (some ⟨g, 0, none⟩) n c) xs) {j : Nat} (hj : j < xs.length) : w.cell? ⟨g, j, none⟩ = some (.int .i64 (xs.getD j 0)) ∧ w.frozen? ⟨g, j, none⟩ = false := by
  obtain ⟨A, c', e', -⟩ := h.shape
  injection e' with e1 e2 e3
  subst e2
  have h' : w.ownsRow B e 1 (.slice (some ⟨g, 0, none⟩) xs.length c) xs.length (xs.map (Value.int .i64)) := h
  refine ⟨?_, h'.frozenAt j⟩
  rw [h'.cellAt j (by omega)]
  simp [List.getD, hj]
theorem OwnI.blockR {e : TypeId} {w : World} {B : Nat} {v : Value} {xs : List Int} (h : OwnI e w B v xs) (hx : 0 < xs.length) : ∃ g c, v = .slice (some ⟨g, 0, none⟩) xs.length c ∧ B ≤ g ∧ g < w.heap.size := by
  obtain ⟨g, c, e1, h1, h2⟩ := World.ownsRow.form h hx
  exact ⟨g, c, e1, h1, h2⟩
def lenQ : Value → Nat
  | .slice _ n _ => n
  | _ => 0
theorem lenQ_own {e : TypeId} {w : World} {B : Nat} {v : Value} {xs : List Int} (h : OwnI e w B v xs) : lenQ v = xs.length := by
  obtain ⟨_, _, rfl, -⟩ := h.shape; rfl
set_option maxHeartbeats 1600000 in
theorem rvRanks_any (v : Value) (xs : List Int) (w : World) (hv : Ints w v xs) (hg : good xs = true) :
    Calls Tryz.prog 187 #[.agg #[v]] w fun (r : Ending) w' => ∃ u, r = Ending.returned u ∧ OwnI 3 w' w.heap.size u (rankL xs) ∧ Below w.heap.size w w' := by
  have HV := hid hv
  have HG := hid hg
  have hl10 := (good_length hg).2
  have HN := hid (heights_nat hg)
  have HML := hid (fun k => rkM_le (fun e => (heights_nat hg e).2) k)
  clear hv hg
  go_enter Tryz.func187, Tryz.ntmps187
  have HB := hid (below_alloc (Below.refl _ w) (.cells #[v] 28))
  have A0 := hid (At.newAt w v 28 w.heap.size (by simp))
  go_wp2_with fail
  refine (poHeights_any _ xs _ (HV.out.below HB.out) HG.out).mono ?_
  rintro e w' ⟨u, rfl, ho, hb⟩
  replace HB := hid (below_to HB.out hb)
  replace A0 := hid (A0.out.below hb)
  clear hb
  have hz := HB.out.size
  have HI := hid ho.ints
  have hlen := heights_len HG.out
  have HEnd : Hid (rankL xs = rkQ (heightsL xs) xs.length (rkM (heightsL xs) xs.length)) := hid rfl
  obtain ⟨ls, hls⟩ : ∃ ls, heightsL xs = ls := ⟨_, rfl⟩
  rw [hls] at HI HN HML HEnd hlen
  obtain ⟨A, c, rfl, hA⟩ := HI.out
  have HA := hid hA
  rw [← hlen] at HEnd hl10
  clear ho HI hA hls hlen
  go_wp2
  go_loopw [4, 11] (fun q i wr => ∃ k : Nat, k ≤ ls.length ∧ i = .int .i64 k ∧ OwnI 3 wr w'.heap.size q (rkQ ls k (rkM ls k)) ∧ Below w'.heap.size w' wr) (fun _ i _ => ls.length - (intOf i).toNat)
  case atStart => exact ⟨0, Nat.zero_le _, rfl, OwnI.nil _ _ _, Below.refl _ _⟩
  case round =>
    obtain ⟨k, hk, rfl, ho, hb⟩ := hrel
    have HO := hid ho
    have HB1 := hid hb
    by_cases hlt : k < ls.length
    · obtain ⟨b, o, rfl, hbl, hc⟩ := HA.out (by intro h; simp [h] at hlt)
      have hcell : wr.cell? ⟨b, o + k, none⟩ = some (.int .i64 (ls.getD k 0)) := (hb.cell (p := ⟨b, o + k, none⟩) hbl).trans (hc k hlt)
      obtain ⟨hn1, hn2⟩ := HN.out k
      have hMk := HML.out k
      have HMd : Hid (rkM ls (k + 1) = max (rkM ls k) ((ls.getD k 0).toNat + 1)) := hid rfl
      obtain ⟨h, hh⟩ : ∃ h, (ls.getD k 0).toNat = h := ⟨_, rfl⟩
      rw [hh] at hn1 hn2 HMd
      rw [hn1] at hcell
      have HH := hid hh
      clear hc ho hb hn1 hh
      go_wp2
      go_loopw [4] (fun q wi => ∃ m : Nat, rkM ls k ≤ m ∧ m ≤ max (rkM ls k) (h + 1) ∧ OwnI 3 wi w'.heap.size q (rkQ ls k m) ∧ Below w'.heap.size w' wi) (fun q _ => h + 1 - lenQ q)
      case atStart => exact ⟨rkM ls k, Nat.le_refl _, Nat.le_max_left _ _, HO.out, HB1.out⟩
      case round =>
        obtain ⟨m, hm1, hm2, ho, hb⟩ := hrel
        have HO2 := hid ho
        have HB2 := hid hb
        have hz2 := hb.size
        obtain ⟨qA, qc, rfl, -⟩ := ho.shape
        rw [rkQ_length] at HO2 ⊢
        clear ho hb
        by_cases hmh : m ≤ h
        · have hl48 : (rkQ ls k m).length < 1048576 := by rw [rkQ_length]; omega
          go_wp2_with (at_builtin; refine wpList_append_int rfl _ _ 22 3 rfl Tryz.underlying22 Tryz.info3 w'.heap.size _ _ 0 rfl HO2.out rfl rfl hl48 hz2 ?_; rintro q2 w6 ho6 hb6)
          have HGw := hid (rkQ_grow ls (k := k) (m := m) hm1)
          have hq2 := lenQ_own ho6
          rw [List.length_append, rkQ_length] at hq2
          go_roundw
          case rel => exact ⟨m + 1, by omega, by omega, (by rw [← HGw.out]; exact ho6), HB2.out.trans hb6⟩
          case measure => rw [hq2]; simp [lenQ]; omega
        · have hMe : m = rkM ls (k + 1) := by rw [HMd.out]; omega
          obtain ⟨g, c2, hsh, hg1, hg2⟩ := HO2.out.blockR (by rw [rkQ_length]; omega)
          rw [rkQ_length] at hsh
          cases hsh
          obtain ⟨t1, t2⟩ := HO2.out.cellR (j := h) (by rw [rkQ_length]; omega)
          rw [rkQ_get ls k (show h < m by omega)] at t1
          have hE := rkE_lt ls (Nat.le_refl k) h
          have HSet := hid (rkQ_set ls (k := k) (m := m) (i := h) HH.out (by omega))
          have hp9 := pow_lt10 k (by omega)
          obtain ⟨E, hEq⟩ : ∃ E, rkE ls k h = E := ⟨_, rfl⟩
          rw [hEq] at t1 hE HSet
          have wp := wrap_pow' k (by omega)
          have hor := or_pow E k (by omega) (by omega)
          have hhm : (h : Int) < m := by omega
          have hm10 : m ≤ 10 := by omega
          clear hEq hE hp9 hm1 hm2
          go_wp2
          go_region
          go_wp2
          go_roundw
          case rel => exact ⟨k + 1, by omega, by go_num, (by rw [← hMe, ← HSet.out]; exact (HO2.out.storedR h _).drew), (HB2.out.setCell (p := ⟨g, h, none⟩) hg1 _).drew⟩
          case measure => simp [intOf]; omega
    · obtain rfl : k = ls.length := by omega
      clear ho hb
      go_wp2
      go_ret
      exact ⟨_, rfl, (by rw [HEnd.out]; exact HO.out.mono hz), below_to HB.out HB1.out⟩
def okRk (xs : List Int) : Bool := good xs && rankedB xs
def okRI (xs : List Int) (s : Int) : Bool := okRk xs && okIdeal xs s
theorem okRk_no {xs : List Int} (h : good xs = false) : okRk xs = false := by simp [okRk, h]
theorem okRk_yes {xs : List Int} (h : good xs = true) : okRk xs = rankedB xs := by simp [okRk, h]
theorem okRk_good {xs : List Int} (h : okRk xs = true) : good xs = true ∧ rankedB xs = true := by simpa [okRk] using h
theorem okRI_no {xs : List Int} {s : Int} (h : okRk xs = false) : okRI xs s = false := by simp [okRI, h]
theorem okRI_yes {xs : List Int} {s : Int} (h : okRk xs = true) : okRI xs s = okIdeal xs s := by simp [okRI, h]
theorem okRI_all {xs : List Int} {s : Int} (h : okRI xs s = true) : ∃ z : Nat, s = (z : Int) ∧ good xs = true ∧ rankedB xs = true ∧ z < 2 ^ xs.length ∧ holdsIdeal xs z = true := by
  have h1 : okRk xs = true ∧ okIdeal xs s = true := by simpa [okRI] using h
  obtain ⟨z, h2, h3, h4, h5⟩ := okIdeal_all h1.2
  exact ⟨z, h2, h3, (okRk_good h1.1).2, h4, h5⟩
theorem rvGood_any (v : Value) (xs : List Int) (w : World) (hv : Ints w v xs) (hl : xs.length ≤ 1048576) :
    Calls Tryz.prog 186 #[.agg #[v]] w fun r w' => r = .returned (.bool (okRk xs)) ∧ Below w.heap.size w w' := by
  have HV := hid hv
  clear hv
  go_enter Tryz.func186, Tryz.ntmps186
  have HB := hid (below_alloc (Below.refl _ w) (.cells #[v] 28))
  have A0 := hid (At.newAt w v 28 w.heap.size (by simp))
  go_wp2_with fail
  refine (poGood_any _ xs _ (HV.out.below HB.out) hl).mono ?_
  rintro e w' ⟨rfl, hb⟩
  replace HB := hid (below_to HB.out hb)
  replace A0 := hid (A0.out.below hb)
  clear hb
  cases hq : good xs
  · have HQ := hid hq
    clear hq
    have ebox0 := A0.out.1
    go_wp2
    go_ret
    exact ⟨ret_bool (okRk_no HQ.out).symm, HB.out⟩
  · have HQ := hid hq
    clear hq
    have ebox0 := A0.out.1
    go_wp2_with fail
    clear ebox0
    refine (poRanked_any _ xs _ (HV.out.below HB.out) HQ.out).mono ?_
    rintro e w' ⟨rfl, hb⟩
    replace HB := hid (below_to HB.out hb)
    replace A0 := hid (A0.out.below hb)
    clear hb
    cases hr : rankedB xs
    · have HR := hid hr
      clear hr
      have ebox0 := A0.out.1
      go_wp2
      go_ret
      exact ⟨ret_bool (by rw [okRk_yes HQ.out, HR.out]), HB.out⟩
    · have HR := hid hr
      clear hr
      have ebox0 := A0.out.1
      go_wp2
      go_ret
      exact ⟨ret_bool (by rw [okRk_yes HQ.out, HR.out]), HB.out⟩
theorem rvIn_any (v : Value) (xs : List Int) (s : Int) (w : World) (hv : Ints w v xs) (hl : xs.length ≤ 1048576) :
    Calls Tryz.prog 140 #[.agg #[v], .int .i64 s] w fun r w' => r = .returned (.bool (okRI xs s)) ∧ Below w.heap.size w w' := by
  have HV := hid hv
  clear hv
  go_enter Tryz.func140, Tryz.ntmps140
  have HB := hid (below_alloc (Below.refl _ w) (.cells #[v] 28))
  have A0 := hid (At.newAt w v 28 w.heap.size (by simp))
  go_wp2_with fail
  refine (rvGood_any _ xs _ (HV.out.below HB.out) hl).mono ?_
  rintro e w' ⟨rfl, hb⟩
  replace HB := hid (below_to HB.out hb)
  replace A0 := hid (A0.out.below hb)
  clear hb
  cases hq : okRk xs
  · have HQ := hid hq
    clear hq
    have ebox0 := A0.out.1
    go_wp2
    go_ret
    exact ⟨ret_bool (okRI_no HQ.out).symm, HB.out⟩
  · have HQ := hid hq
    have HG := hid (okRk_good hq).1
    clear hq
    have ebox0 := A0.out.1
    go_wp2_with fail
    clear ebox0
    refine (poSet_ok _ xs s _ (HV.out.below HB.out) HG.out).mono ?_
    rintro e w' ⟨rfl, hb⟩
    replace HB := hid (below_to HB.out hb)
    replace A0 := hid (A0.out.below hb)
    clear hb
    cases hs : okSet xs s
    · have HS := hid hs
      clear hs
      have ebox0 := A0.out.1
      go_wp2
      go_ret
      exact ⟨ret_bool (by rw [okRI_yes HQ.out, okIdeal_no HS.out]), HB.out⟩
    · have HS := hid hs
      obtain ⟨z, rfl⟩ := Int.eq_ofNat_of_zero_le (okSet_lt hs).1
      have hz := (okSet_lt hs).2
      have HI := hid (okIdeal_nat hs)
      clear hs
      have ebox0 := A0.out.1
      go_wp2_with fail
      clear ebox0
      refine (poIdeal_any _ xs z _ (HV.out.below HB.out) (good_length HG.out).2 (by omega) (good_small HG.out z)).mono ?_
      rintro e w' ⟨rfl, hb⟩
      replace HB := hid (below_to HB.out hb)
      replace A0 := hid (A0.out.below hb)
      clear hb
      cases hi : holdsIdeal xs z
      · have HJ := hid hi
        clear hi
        have ebox0 := A0.out.1
        go_wp2
        go_ret
        exact ⟨ret_bool (by rw [okRI_yes HQ.out, HI.out, HJ.out]), HB.out⟩
      · have HJ := hid hi
        clear hi
        have ebox0 := A0.out.1
        go_wp2
        go_ret
        exact ⟨ret_bool (by rw [okRI_yes HQ.out, HI.out, HJ.out]), HB.out⟩
theorem rvAt_any (v : Value) (xs : List Int) (s r : Nat) (w : World) (hv : Ints w v xs) (hg : good xs = true) (hs : s < 2 ^ xs.length) (hr : r < 1024) :
    Calls Tryz.prog 188 #[.agg #[v], .int .i64 s, .int .i64 r] w fun q w' => q = .returned (.int .i64 (togW xs s (elL xs.length r) : Nat)) ∧ Below w.heap.size w w' := by
  have HV := hid hv
  have HG := hid hg
  have HN := hid hs
  have hl10 := (good_length hg).2
  have HIn : Hid (∀ k, k ≤ xs.length → inW xs.length (elL k r) = true) := hid (fun k hk => List.all_eq_true.2 fun y hy => by
    obtain ⟨e, he, rfl⟩ := List.mem_map.1 hy
    have := (elN_mem.1 he).1
    simp; omega)
  obtain ⟨A, c, rfl, -⟩ := hv
  clear hg hs
  go_enter Tryz.func188, Tryz.ntmps188
  have HB := hid (below_alloc (Below.refl _ w) (.cells #[(.slice A xs.length c)] 28))
  have A0 := hid (At.newAt w (.slice A xs.length c) 28 w.heap.size (by simp))
  go_wp2
  go_loopw [1, 11] (fun q i wr => ∃ k t : Nat, k ≤ xs.length ∧ i = .int .i64 k ∧ q = .int .i64 (t : Nat) ∧ Hid (togW xs s (elL k r) = t) ∧ Below w.heap.size w wr ∧ At wr w.heap.size (.slice A xs.length c)) (fun _ i _ => xs.length - (intOf i).toNat)
  case atStart => exact ⟨0, s, Nat.zero_le _, rfl, rfl, hid rfl, HB.out, A0.out⟩
  case round =>
    obtain ⟨k, t, hk, rfl, rfl, HT, hb, ha⟩ := hrel
    have HB1 := hid hb
    have HA1 := hid ha
    by_cases hlt : k < xs.length
    · cases hbit : r.testBit k
      · have HBit := hid hbit
        clear hbit hb ha
        go_wp2_with (go_at_call 130; refine (poIn_any r k (by omega) _).mono ?_; rw [HBit.out]; rintro e w' ⟨rfl, rfl⟩)
        go_roundw
        case rel => exact ⟨k + 1, t, by omega, by go_num, rfl, hid (by rw [elL_no HBit.out]; exact HT.out), HB1.out, HA1.out⟩
        case measure => simp [intOf]; omega
      · have HBit := hid hbit
        have hl2 : togW xs s (elL k r) < 2 ^ xs.length := togW_lt HN.out (HIn.out k hk)
        have HL := hid (show t < 2 ^ xs.length by rw [← HT.out]; exact hl2)
        have hbox := ha.1
        clear hbit hb ha hl2
        go_wp2_with (go_at_call 130; refine (poIn_any r k (by omega) _).mono ?_; rw [HBit.out]; rintro e w' ⟨rfl, rfl⟩)
        clear hbox
        refine (tgAt_any _ xs t k _ (HV.out.below HB1.out) HG.out HL.out hlt).mono ?_
        rintro e' w' ⟨rfl, hb⟩
        have HB2 := hid (below_to HB1.out hb)
        have HA2 := hid (HA1.out.below hb)
        clear hb
        go_wp2
        go_roundw
        case rel => exact ⟨k + 1, _, by omega, by go_num, rfl, hid (by rw [elL_yes HBit.out, togW_app, HT.out]; rfl), HB2.out, HA2.out⟩
        case measure => simp [intOf]; omega
    · obtain rfl : k = xs.length := by omega
      clear hb ha
      go_wp2
      go_ret
      exact ⟨ret_int (by rw [← HT.out]), HB1.out⟩
end Go.Proofs.YtbmhaamenjhjfaaGreatDoor
namespace Go.Proofs.YtbmhaamenjhjfaaGreatDoor
open Go.RowKit Go.WideShapes Go.ChangeShapes
set_option linter.unusedVariables false
theorem okWord_one (xs : List Int) (e : Int) : okWord xs [e] = (decide (0 ≤ e) && decide (e < xs.length)) := by
  simp [okWord, inW]
theorem togW_one (xs : List Int) (s : Nat) (e : Nat) : togW xs s [(e : Int)] = tog xs s e := by simp [togW]
theorem specToggleAt_any (v : Value) (xs : List Int) (s e : Int) (w : World) (hv : Ints w v xs) (hl : xs.length ≤ 1048576) (wf : (Lit.int .i64 s).wf = true) (wfe : (Lit.int .i64 e).wf = true) :
    Calls Tryz.prog 79 #[.agg #[v], .int .i64 s, .int .i64 e] w fun r w' => r = .returned (.tuple #[.int .i64 (ansTW xs [e] s), .bool (okTW xs [e] s)]) ∧ Below w.heap.size w w' := by
  have HV := hid hv
  clear hv wf wfe
  go_enter Tryz.func79, Tryz.ntmps79
  have HB := hid (below_alloc (Below.refl _ w) (.cells #[v] 28))
  have A0 := hid (At.newAt w v 28 w.heap.size (by simp))
  go_wp2_with fail
  refine (tgIn_any _ xs s _ (HV.out.below HB.out) hl).mono ?_
  rintro e w' ⟨rfl, hb⟩
  replace HB := hid (below_to HB.out hb)
  replace A0 := hid (A0.out.below hb)
  clear hb
  cases hq : okIdeal xs s
  · have HO := hid (okTW_no1 (ys := [e]) hq)
    clear hq
    have ebox0 := A0.out.1
    go_wp2
    go_ret2
    exact ⟨ret_ib (ansTW_no HO.out).symm HO.out.symm, HB.out⟩
  · have HQ := hid hq
    clear hq
    have ebox0 := A0.out.1
    go_wp2_with fail
    clear ebox0
    refine (tgElement_any _ xs e _ (HV.out.below HB.out) hl).mono ?_
    rintro e w' ⟨rfl, hb⟩
    replace HB := hid (below_to HB.out hb)
    replace A0 := hid (A0.out.below hb)
    clear hb
    cases hk : (decide (0 ≤ e) && decide (e < (xs.length : Int)))
    · have HO := hid (okTW_no2 (s := s) ((okWord_one xs e).trans hk))
      clear hk
      have ebox0 := A0.out.1
      go_wp2
      go_ret2
      exact ⟨ret_ib (ansTW_no HO.out).symm HO.out.symm, HB.out⟩
    · have HO := hid (okTW_yes HQ.out ((okWord_one xs e).trans hk))
      have hk2 : 0 ≤ e ∧ e < xs.length := by simpa using hk
      clear hk
      obtain ⟨z, rfl, h3, h4, h5⟩ := okIdeal_all HQ.out
      obtain ⟨n, rfl⟩ := Int.eq_ofNat_of_zero_le hk2.1
      have HG := hid h3
      have HN := hid h4
      clear h3 h4 h5
      have ebox0 := A0.out.1
      go_wp2_with fail
      clear ebox0
      refine (tgAt_any _ xs z n _ (HV.out.below HB.out) HG.out HN.out (by omega)).mono ?_
      rintro e w' ⟨rfl, hb⟩
      replace HB := hid (below_to HB.out hb)
      replace A0 := hid (A0.out.below hb)
      clear hb
      have ebox0 := A0.out.1
      go_wp2
      go_ret2
      exact ⟨ret_ib ((ansTW_yes HO.out).trans (by rw [togW_one])).symm HO.out.symm, HB.out⟩
theorem implToggleAt_any (v : Value) (xs : List Int) (s e : Int) (w : World) (hv : Ints w v xs) (hl : xs.length ≤ 1048576) (wf : (Lit.int .i64 s).wf = true) (wfe : (Lit.int .i64 e).wf = true) :
    Calls Tryz.prog 108 #[.agg #[v], .int .i64 s, .int .i64 e] w fun r w' => r = .returned (.tuple #[.int .i64 (ansTW xs [e] s), .bool (okTW xs [e] s)]) ∧ Below w.heap.size w w' := by
  have HV := hid hv
  have WF := hid wf
  clear hv wf wfe
  go_enter Tryz.func108, Tryz.ntmps108
  have HB := hid (below_alloc (Below.refl _ w) (.cells #[v] 28))
  have A0 := hid (At.newAt w v 28 w.heap.size (by simp))
  go_wp2_with fail
  refine (implToggleWord_any _ xs s _ [e] _ ((HV.out.below HB.out).alloc _) hl WF.out (Blk.ints (xs := [e]) (c := 1) (Blk.newAt _ 3 _ _ (by first | rfl | simp))) (by simp)).mono ?_
  rintro e w' ⟨rfl, hb⟩
  replace HB := hid (below_to (below_alloc HB.out _) hb)
  replace A0 := hid ((A0.out.alloc _).below hb)
  clear hb
  have ebox0 := A0.out.1
  go_wp2
  go_ret2
  exact ⟨rfl, HB.out⟩
end Go.Proofs.YtbmhaamenjhjfaaGreatDoor
namespace Go.Proofs.YtbmhaamenjhjfaaGreatDoor
open Go.RowKit Go.WideShapes Go.ChangeShapes
set_option linter.unusedVariables false
theorem rank_facts {xs : List Int} (hg : good xs = true) {i : Nat} (hi : i < rkN xs) : ∃ r : Nat, (rankL xs).getD i 0 = (r : Int) ∧ r < 2 ^ xs.length ∧ r < 1024 ∧ elL 10 ((rankL xs).getD i 0).toNat = elL xs.length r := by
  have h1 := rkE_lt (heightsL xs) (Nat.le_refl xs.length) i
  refine ⟨_, rankL_get hi, h1, lt1024 h1 (good_length hg).2, ?_⟩
  rw [rankL_get hi, Int.toNat_natCast]
  exact elL_ten h1 (good_length hg).2
structure SR (w : World) (b : Nat) (v : Value) (W : World) : Prop where
  at_ : At W b v
  below : Below w.heap.size w W
theorem SR.drew {w : World} {b : Nat} {v : Value} {W : World} (h : SR w b v W) : SR w b v W.drew := ⟨h.at_.drew, h.below.drew⟩
theorem SR.to {w : World} {b : Nat} {v : Value} {W W' : World} (h : SR w b v W) (hb : Below W.heap.size W W') : SR w b v W' := ⟨h.at_.below hb, below_to h.below hb⟩
theorem rvAt_SR (v : Value) (xs : List Int) (w0 : World) (b s r : Nat) (W : World) (hv : Ints w0 v xs) (hg : good xs = true) (hS : SR w0 b v W) (hs : s < 2 ^ xs.length) (hr : r < 1024) :
    Calls Tryz.prog 188 #[.agg #[v], .int .i64 s, .int .i64 r] W fun q w' => q = .returned (.int .i64 (togW xs s (elL xs.length r) : Nat)) ∧ SR w0 b v w' :=
  (rvAt_any v xs s r W (hv.below hS.below) hg hs hr).mono fun _ _ ⟨h1, h2⟩ => ⟨h1, hS.to h2⟩
set_option maxHeartbeats 1600000 in
theorem rvWord_any (v u : Value) (xs ws : List Int) (s : Nat) (w : World) (hv : Ints w v xs) (hu : Ints w u ws) (hg : good xs = true) (hs : s < 2 ^ xs.length) (hw : inW (rkN xs) ws = true) (hm : ws.length ≤ 1048576) :
    Calls Tryz.prog 141 #[.agg #[v], .int .i64 s, u] w fun q w' => q = .returned (.int .i64 (togW xs s (rkW (rankL xs) ws) : Nat)) ∧ Below w.heap.size w w' := by
  have HV := hid hv
  have HU := hid hu
  have HG := hid hg
  have HN := hid hs
  have HW := hid hw
  have hr10 : rkN xs ≤ 10 := by have := rkN_bounds hg; have := good_length hg; omega
  have HLt := hid (fun k => togW_lt (xs := xs) hs (inW_rkW hg (inW_take k hw)))
  have HF := hid (fun i (hi : i < rkN xs) => rank_facts hg hi)
  obtain ⟨uA, uc, rfl, -⟩ := hu
  clear hv hg hs hw
  go_enter Tryz.func141, Tryz.ntmps141
  have HB := hid (below_alloc (Below.refl _ w) (.cells #[v] 28))
  have A0 := hid (At.newAt w v 28 w.heap.size (by simp))
  go_wp2_with fail
  refine (rvRanks_any _ xs _ (HV.out.below HB.out) HG.out).mono ?_
  rintro e w' ⟨q, rfl, ho, hb⟩
  replace HB := hid (below_to HB.out hb)
  replace A0 := hid (A0.out.below hb)
  clear hb
  have HI := hid ho.ints
  obtain ⟨qA, qc, rfl, hqA⟩ := HI.out
  rw [rankL_length] at hqA ⊢
  have HQ := hid hqA
  have HV1 := hid (HV.out.below HB.out)
  have HU1 := hid (HU.out.below HB.out)
  obtain ⟨_, _, he, hUA⟩ := HU1.out
  cases he
  have HUA := hid hUA
  have HS0 := hid (show SR w' w.heap.size v w' from ⟨A0.out, Below.refl _ _⟩)
  have hz := HB.out.size
  clear ho HI hqA hUA
  go_wp2
  go_loopw [1, 14] (fun q i wr => ∃ k t : Nat, k ≤ ws.length ∧ i = .int .i64 k ∧ q = .int .i64 t ∧ Hid (togW xs s (rkW (rankL xs) (ws.take k)) = t) ∧ SR w' w.heap.size v wr) (fun _ i _ => ws.length - (intOf i).toNat)
  case atStart => exact ⟨0, s, Nat.zero_le _, rfl, rfl, hid rfl, HS0.out⟩
  case round =>
    obtain ⟨k, t, hk, rfl, rfl, HT, hS⟩ := hrel
    have HS := hid hS
    by_cases hlt : k < ws.length
    · obtain ⟨b, o, rfl, hbl, hc⟩ := HUA.out (by intro h; simp [h] at hlt)
      have hcell : wr.cell? ⟨b, o + k, none⟩ = some (.int .i64 (ws.getD k 0)) := (hS.below.cell (p := ⟨b, o + k, none⟩) hbl).trans (hc k hlt)
      have hin := inW_at HW.out hlt
      have HTk := hid (rkW_take (rankL xs) ws hlt)
      obtain ⟨x, hx⟩ : ∃ x, ws.getD k 0 = x := ⟨_, rfl⟩
      rw [hx] at hcell hin HTk
      obtain ⟨i, rfl⟩ := Int.eq_ofNat_of_zero_le hin.1
      have hi1 : i < rkN xs := by omega
      obtain ⟨r, hr1, hr2, hr3, hr4⟩ := HF.out i hi1
      rw [Int.toNat_natCast, hr4] at HTk
      have hne : rankL xs ≠ [] := by intro h; have := rankL_length xs; rw [h] at this; simp at this; omega
      obtain ⟨b2, o2, rfl, hbl2, hc2⟩ := HQ.out hne
      have HC2 : Hid (∀ W : World, SR w' w.heap.size v W → W.cell? ⟨b2, o2 + i, none⟩ = some (.int .i64 r)) := hid (fun W h => by rw [(h.below.cell (p := ⟨b2, o2 + i, none⟩) hbl2).trans (hc2 i hi1), hr1])
      have hcr := HC2.out _ hS
      have HL := hid (show t < 2 ^ xs.length by rw [← HT.out]; exact HLt.out k)
      have hbox := hS.at_.1
      have hix : (i : Int) < rkN xs := by omega
      clear hc hc2 hx hS hin hr1 hr2 hr4 hne hbl hbl2
      go_wp2_with fail
      go_region_held3 (fun W => W.cell? ⟨w.heap.size, 0, none⟩ = some v ∧ W.cell? ⟨b2, o2 + i, none⟩ = some (.int .i64 r) ∧ Hid (SR w' w.heap.size v W)) (first | exact ⟨HS.out.drew.at_.1, hcr, hid HS.out.drew⟩ | exact ⟨HS2.out.at_.1, HC2.out _ HS2.out, HS2⟩) (first | (go_at_call 188; refine (rvAt_SR v xs w' w.heap.size _ _ _ HV1.out HG.out (Hid.out (by first | assumption | exact hid HS.out.drew)) HL.out hr3).mono ?_; rintro e' w4 ⟨rfl, hs4⟩; have HS2 := hid hs4; clear hs4))
      go_wp2
      go_roundw
      case rel => exact ⟨k + 1, _, by omega, by go_num, rfl, hid (by rw [HTk.out, togW_app, HT.out]), HS2.out⟩
      case measure => simp [intOf]; omega
    · obtain rfl : k = ws.length := by omega
      clear hS
      go_wp2
      go_ret
      exact ⟨ret_int (by rw [← HT.out, List.take_length]), below_to HB.out HS.out.below⟩
end Go.Proofs.YtbmhaamenjhjfaaGreatDoor
namespace Go.Proofs.YtbmhaamenjhjfaaGreatDoor
open Go.RowKit Go.WideShapes Go.ChangeShapes
set_option linter.unusedVariables false
def rnL (a b : Nat) : List Int := (List.range (b + 1 - a)).map fun j => ((a + j : Nat) : Int)
def rs2 (a b : Nat) : List Int := (List.range ((b + 2 - a) / 2)).map fun j => ((a + 2 * j : Nat) : Int)
def fsL (a b : Nat) : List Int := (List.range (a + 1 - b)).map fun j => ((a - j : Nat) : Int)
theorem rnL_length (a b : Nat) : (rnL a b).length = b + 1 - a := by simp [rnL]
theorem rs2_length (a b : Nat) : (rs2 a b).length = (b + 2 - a) / 2 := by simp [rs2]
theorem fsL_length (a b : Nat) : (fsL a b).length = a + 1 - b := by simp [fsL]
theorem rnL_rev (a b : Nat) : (rnL a b).reverse = fsL b a := by
  apply List.ext_getElem
  · simp [rnL, fsL]
  · intro i h1 h2
    have hi : i < b + 1 - a := by simpa [fsL] using h2
    rw [List.getElem_reverse]
    simp only [rnL, fsL, List.getElem_map, List.getElem_range, List.length_map, List.length_range]
    omega
def mapT (f : Nat → Int) (k : Nat) : List Int := (List.range k).map f
theorem mapT_succ (f : Nat → Int) (k : Nat) : mapT f (k + 1) = mapT f k ++ [f k] := by simp [mapT, List.range_succ]
theorem mapT_length (f : Nat → Int) (k : Nat) : (mapT f k).length = k := by simp [mapT]
def swL (f : Nat → List Int) (n : Nat) : List Int := (List.range n).flatMap f
theorem swL_zero (f : Nat → List Int) : swL f 0 = [] := rfl
theorem swL_succ (f : Nat → List Int) (n : Nat) : swL f (n + 1) = swL f n ++ f n := by simp [swL, List.range_succ]
theorem swL_length (f : Nat → List Int) (n c : Nat) (h : ∀ k, k < n → (f k).length ≤ c) : (swL f n).length ≤ c * n := by
  induction n with
  | zero => simp [swL]
  | succ n ih =>
    rw [swL_succ, List.length_append]
    have h1 := ih fun k hk => h k (by omega)
    have h2 := h n (by omega)
    rw [Nat.mul_add, Nat.mul_one]; omega
def cVac (h : Nat) : Nat := h + 1
def fVac (h k : Nat) : List Int := fsL h k
def cGyr (h : Nat) : Nat := 2
def fGyr (h k : Nat) : List Int := rs2 k h
def wVac (h : Nat) : List Int := swL (fVac h) (cVac h)
def wGyr (h : Nat) : List Int := swL (fGyr h) (cGyr h)
theorem wGyr_eq (h : Nat) : wGyr h = rs2 0 h ++ rs2 1 h := by simp [wGyr, swL, cGyr, fGyr, List.range_succ]
theorem inW_flat {n m : Nat} {f : Nat → List Int} (h : ∀ k, k < m → inW n (f k) = true) : inW n (swL f m) = true := by
  rw [inW, List.all_eq_true]
  intro y hy
  rw [swL, List.mem_flatMap] at hy
  obtain ⟨k, hk, hy⟩ := hy
  exact List.all_eq_true.1 (h k (List.mem_range.1 hk)) y hy
theorem inW_rs2 {n a b : Nat} (h : b < n) : inW n (rs2 a b) = true := List.all_eq_true.2 fun y hy => by
  obtain ⟨j, hj, rfl⟩ := List.mem_map.1 hy
  rw [List.mem_range] at hj; simp; omega
theorem inW_fsL {n a b : Nat} (h : a < n) : inW n (fsL a b) = true := List.all_eq_true.2 fun y hy => by
  obtain ⟨j, hj, rfl⟩ := List.mem_map.1 hy
  rw [List.mem_range] at hj; simp; omega
theorem inW_wVac {n h : Nat} (hn : h < n) : inW n (wVac h) = true := inW_flat fun k _ => inW_fsL hn
theorem inW_wGyr {n h : Nat} (hn : h < n) : inW n (wGyr h) = true := inW_flat fun k _ => inW_rs2 hn
theorem fVac_length {h : Nat} (k : Nat) (hh : h ≤ 9) : (fVac h k).length ≤ 10 := by rw [fVac, fsL_length]; omega
theorem fGyr_length {h : Nat} (k : Nat) (hh : h ≤ 9) : (fGyr h k).length ≤ 10 := by rw [fGyr, rs2_length]; omega
theorem sw_length (f : Nat → List Int) {n : Nat} (h : ∀ k, (f k).length ≤ 10) (hn : n ≤ 10) : (swL f n).length ≤ 100 := by
  have := swL_length f n 10 fun k _ => h k; omega
theorem wVac_length {h : Nat} (hh : h ≤ 9) : (wVac h).length ≤ 100 := sw_length _ (fun k => fVac_length k hh) (by unfold cVac; omega)
theorem wGyr_length {h : Nat} (hh : h ≤ 9) : (wGyr h).length ≤ 100 := sw_length _ (fun k => fGyr_length k hh) (by unfold cGyr; omega)
end Go.Proofs.YtbmhaamenjhjfaaGreatDoor
namespace Go.Proofs.YtbmhaamenjhjfaaGreatDoor
open Go.RowKit Go.WideShapes Go.ChangeShapes
set_option linter.unusedVariables false
def evK (xs : List Int) (p k : Nat) : Nat := orN (fun i => i % 2 == p) (fun i => rkE (heightsL xs) xs.length i) k
def evN (xs : List Int) (p : Nat) : Nat := evK xs p (rkN xs)
theorem evK_lt (xs : List Int) (p k : Nat) : evK xs p k < 2 ^ xs.length := orN_lt fun i _ _ => rkE_lt _ (Nat.le_refl _) i
theorem evK_yes {xs : List Int} {p k : Nat} (h : k % 2 = p) : evK xs p (k + 1) = evK xs p k ||| rkE (heightsL xs) xs.length k := orN_yes (p := fun i => i % 2 == p) (by simpa using h)
theorem evK_no {xs : List Int} {p k : Nat} (h : ¬ k % 2 = p) : evK xs p (k + 1) = evK xs p k := orN_no (p := fun i => i % 2 == p) (by simpa using h)
theorem evN_mem {xs : List Int} {p : Nat} (e : Int) : e ∈ elL xs.length (evN xs p) ↔ ∃ f : Nat, e = f ∧ f < xs.length ∧ ((heightsL xs).getD f 0).toNat % 2 = p := by
  unfold elL
  rw [List.mem_map]
  constructor
  · rintro ⟨f, hf, rfl⟩
    rw [elN_mem] at hf
    unfold evN evK at hf
    rw [orN_testBit] at hf
    obtain ⟨h1, i, h2, h3, h4⟩ := hf
    rw [rkE_bit] at h4
    exact ⟨f, rfl, h1, by rw [h4.2]; simpa using h3⟩
  · rintro ⟨f, rfl, h1, h2⟩
    refine ⟨f, ?_, rfl⟩
    rw [elN_mem]
    unfold evN evK
    rw [orN_testBit]
    exact ⟨h1, _, rkM_lt _ h1, by simpa using h2, by rw [rkE_bit]; exact ⟨h1, rfl⟩⟩
theorem rkW_mem {xs : List Int} {ws : List Int} (hw : inW (rkN xs) ws = true) (e : Int) : e ∈ rkW (rankL xs) ws ↔ ∃ f : Nat, e = f ∧ f < xs.length ∧ f < 10 ∧ (((heightsL xs).getD f 0).toNat : Int) ∈ ws := by
  rw [rkW, List.mem_flatMap]
  constructor
  · rintro ⟨i, hi, he⟩
    have hi2 := List.all_eq_true.1 hw i hi
    simp only [Bool.and_eq_true, decide_eq_true_eq] at hi2
    obtain ⟨f, h1, h2, h3, h4⟩ := (rank_mem (show i.toNat < rkN xs by omega) e).1 he
    exact ⟨f, h1, h2, h3, by rw [h4, Int.toNat_of_nonneg hi2.1]; exact hi⟩
  · rintro ⟨f, h1, h2, h3, h4⟩
    exact ⟨_, h4, by rw [Int.toNat_natCast]; exact (rank_mem (rkM_lt _ h2) e).2 ⟨f, h1, h2, h3, rfl⟩⟩
theorem elL_nodup (n r : Nat) : (elL n r).Nodup := by
  unfold elL
  refine List.Pairwise.map _ (fun a b h hab => h (Int.ofNat.inj hab)) (elN_nodup n r)
theorem rkW_nodup {xs : List Int} : ∀ ws : List Int, inW (rkN xs) ws = true → ws.Nodup → (rkW (rankL xs) ws).Nodup
  | [], _, _ => List.nodup_nil
  | a :: t, hw, hn => by
    have h1 : inW (rkN xs) t = true := List.all_eq_true.2 fun y hy => List.all_eq_true.1 hw y (List.mem_cons_of_mem _ hy)
    have h2 := List.all_eq_true.1 hw a (by simp)
    simp only [Bool.and_eq_true, decide_eq_true_eq] at h2
    rw [List.nodup_cons] at hn
    show (elL 10 _ ++ rkW (rankL xs) t).Nodup
    rw [List.nodup_append]
    refine ⟨elL_nodup _ _, rkW_nodup t h1 hn.2, fun x hx y hy hxy => ?_⟩
    subst hxy
    obtain ⟨f, e1, _, _, e4⟩ := (rank_mem (show a.toNat < rkN xs by omega) x).1 hx
    obtain ⟨g, d1, _, _, d4⟩ := (rkW_mem h1 x).1 hy
    have : f = g := by omega
    subst this
    rw [e4, Int.toNat_of_nonneg h2.1] at d4
    exact hn.1 d4
theorem rs2_mem {a b : Nat} (y : Int) : y ∈ rs2 a b ↔ ∃ i : Nat, y = i ∧ a ≤ i ∧ i ≤ b ∧ i % 2 = a % 2 := by
  unfold rs2
  rw [List.mem_map]
  constructor
  · rintro ⟨j, hj, rfl⟩
    rw [List.mem_range] at hj
    exact ⟨a + 2 * j, rfl, by omega, by omega, by omega⟩
  · rintro ⟨i, rfl, h1, h2, h3⟩
    exact ⟨(i - a) / 2, List.mem_range.2 (by omega), by congr 1; omega⟩
theorem rs2_nodup (a b : Nat) : (rs2 a b).Nodup := by
  unfold rs2
  refine List.Pairwise.map _ (fun x y h hab => h (by omega)) List.nodup_range
theorem height_lt {xs : List Int} {f : Nat} (h : f < xs.length) : ((heightsL xs).getD f 0).toNat < rkN xs := rkM_lt _ h
theorem gyr_perm {xs : List Int} (hg : good xs = true) {p h : Nat} (hp : p ≤ 1) (hh : rkN xs = h + 1) : (elL xs.length (evN xs p)).Perm (rkW (rankL xs) (rs2 p h)) := by
  have hl := (good_length hg).2
  refine (List.perm_ext_iff_of_nodup (elL_nodup _ _) (rkW_nodup _ (inW_rs2 (by omega)) (rs2_nodup _ _))).2 fun e => ?_
  rw [evN_mem, rkW_mem (inW_rs2 (by omega))]
  constructor
  · rintro ⟨f, h1, h2, h3⟩
    have := height_lt h2
    exact ⟨f, h1, h2, by omega, (rs2_mem _).2 ⟨_, rfl, by omega, by omega, by omega⟩⟩
  · rintro ⟨f, h1, h2, _, h3⟩
    obtain ⟨i, e1, e2, e3, e4⟩ := (rs2_mem _).1 h3
    exact ⟨f, h1, h2, by omega⟩
theorem ev_in {xs : List Int} (p : Nat) : inW xs.length (elL xs.length (evN xs p)) = true := List.all_eq_true.2 fun y hy => by
  obtain ⟨f, rfl, h, _⟩ := (evN_mem y).1 hy
  simp; omega
theorem ev_apart {xs : List Int} (hg : good xs = true) (hr : rankedB xs = true) (p : Nat) : ∀ d ∈ elL xs.length (evN xs p), ∀ e ∈ elL xs.length (evN xs p), Apart xs d.toNat e.toNat := by
  intro d hd e he
  obtain ⟨f, rfl, h1, h2⟩ := (evN_mem d).1 hd
  obtain ⟨g, rfl, h3, h4⟩ := (evN_mem e).1 he
  rw [Int.toNat_natCast, Int.toNat_natCast]
  exact apart_rank hg hr h1 h3 (by omega)
def gyF (xs : List Int) (s : Nat) : Nat := togW xs (togW xs s (elL xs.length (evN xs 0))) (elL xs.length (evN xs 1))
def gyB (xs : List Int) (s : Nat) : Nat := togW xs (togW xs s (elL xs.length (evN xs 1))) (elL xs.length (evN xs 0))
theorem gyF_word {xs : List Int} (hg : good xs = true) (hr : rankedB xs = true) {h : Nat} (hh : rkN xs = h + 1) {s : Nat} (hs : holdsIdeal xs s = true) :
    gyF xs s = togW xs s (rkW (rankL xs) (wGyr h)) := by
  unfold gyF
  rw [wGyr_eq, rkW_append, togW_app, togW_perm hg (gyr_perm hg (p := 0) (by omega) hh) (ev_in 0) (ev_apart hg hr 0) s hs,
    togW_perm hg (gyr_perm hg (p := 1) (by omega) hh) (ev_in 1) (ev_apart hg hr 1) _ (togW_ideal hs)]
end Go.Proofs.YtbmhaamenjhjfaaGreatDoor
namespace Go.Proofs.YtbmhaamenjhjfaaGreatDoor
open Go.RowKit Go.WideShapes Go.ChangeShapes
set_option linter.unusedVariables false
def ansSW (f : Nat → List Int) (xs : List Int) (s : Int) : Int := if okRI xs s then (togW xs s.toNat (rkW (rankL xs) (f (rkN xs - 1))) : Int) else 0
theorem ansSW_no {f : Nat → List Int} {xs : List Int} {s : Int} (h : okRI xs s = false) : ansSW f xs s = 0 := by simp [ansSW, h]
theorem ansSW_yes {f : Nat → List Int} {xs : List Int} {z h : Nat} (hk : okRI xs z = true) (hh : rkN xs = h + 1) : ansSW f xs z = (togW xs z (rkW (rankL xs) (f h)) : Int) := by unfold ansSW; rw [if_pos hk, hh]; rfl
theorem rkN_some {xs : List Int} (hg : good xs = true) : ∃ h, rkN xs = h + 1 ∧ h ≤ 9 := by
  have h1 := rkN_bounds hg
  have h2 := good_length hg
  exact ⟨rkN xs - 1, by omega, by omega⟩
theorem fall_to {h k t : Nat} (ht : t = h + 1 - k) : mapT (fun j => ((h - j : Nat) : Int)) t = fVac h k := by subst ht; rfl
set_option maxHeartbeats 1600000 in
theorem rvVacuate_any (v : Value) (xs : List Int) (h : Nat) (w : World) (hv : Ints w v xs) (hg : good xs = true) (hh : rkN xs = h + 1) (h9 : h ≤ 9) :
    Calls Tryz.prog 142 #[.agg #[v]] w fun (r : Ending) w' => ∃ q, r = Ending.returned q ∧ OwnI 3 w' w.heap.size q (wVac h) ∧ Below w.heap.size w w' := by
  have HV := hid hv
  have HG := hid hg
  have HF := hid (mapT_succ (fun j => ((h - j : Nat) : Int)))
  have HL := hid (mapT_length (fun j => ((h - j : Nat) : Int)))
  have HE := hid (fun k t => fall_to (h := h) (k := k) (t := t))
  have H0 : Hid (mapT (fun j => ((h - j : Nat) : Int)) 0 = []) := hid rfl
  obtain ⟨F, hF⟩ : ∃ F, mapT (fun j => ((h - j : Nat) : Int)) = F := ⟨_, rfl⟩
  rw [hF] at HF HL HE H0
  have HSw := hid (swL_succ (fVac h))
  have HS0 := hid (swL_zero (fVac h))
  have HLn := hid (fun k (hk : k ≤ 10) => sw_length (fVac h) (n := k) (fun k => fVac_length k h9) hk)
  have HEnd : Hid (swL (fVac h) (h + 1) = wVac h) := hid rfl
  obtain ⟨G, hG⟩ : ∃ G, fVac h = G := ⟨_, rfl⟩
  rw [hG] at HE HSw HS0 HLn HEnd
  clear hv hg hF hG
  go_enter Tryz.func142, Tryz.ntmps142
  have HB := hid (below_alloc (Below.refl _ w) (.cells #[v] 28))
  have A0 := hid (At.newAt w v 28 w.heap.size (by simp))
  go_wp2_with fail
  refine (rvRanks_any _ xs _ (HV.out.below HB.out) HG.out).mono ?_
  rintro e w' ⟨q, rfl, ho, hb⟩
  replace HB := hid (below_to HB.out hb)
  replace A0 := hid (A0.out.below hb)
  clear hb
  obtain ⟨qA, qc, rfl, -⟩ := ho.shape
  rw [rankL_length, hh]
  have hz := HB.out.size
  clear ho hh
  go_wp2
  go_loopw [4, 5] (fun q i wr => ∃ k : Nat, k ≤ h + 1 ∧ i = .int .i64 k ∧ OwnI 3 wr w'.heap.size q (swL G k) ∧ Below w'.heap.size w' wr) (fun _ i _ => h + 1 - (intOf i).toNat)
  case atStart => exact ⟨0, by omega, rfl, by rw [HS0.out]; exact OwnI.nil _ _ _, Below.refl _ _⟩
  case round =>
    obtain ⟨k, hk, rfl, ho, hb⟩ := hrel
    have HO := hid ho
    have HB1 := hid hb
    have hlk := HLn.out k (by omega)
    clear ho hb
    by_cases hlt : k ≤ h
    · obtain ⟨P, hP⟩ : ∃ P, swL G k = P := ⟨_, rfl⟩
      rw [hP] at HO hlk
      have HP := hid hP
      clear hP
      go_wp2
      go_loopw [4, 6] (fun q i wi => ∃ (t : Nat) (x : Int), x + t = h ∧ t ≤ h + 1 - k ∧ i = .int .i64 x ∧ OwnI 3 wi w'.heap.size q (P ++ F t) ∧ Below w'.heap.size w' wi) (fun _ i _ => (intOf i + 1).toNat)
      case atStart => exact ⟨0, h, by omega, by omega, rfl, by rw [H0.out, List.append_nil]; exact HO.out, HB1.out⟩
      case round =>
        obtain ⟨t, x, hx, ht, rfl, ho, hb⟩ := hrel
        have HO2 := hid ho
        have HB2 := hid hb
        have hz2 := hb.size
        by_cases hxk : (k : Int) ≤ x
        · have hl48 : (P ++ F t).length < 1048576 := by rw [List.length_append, HL.out]; omega
          have HS : Hid (F (t + 1) = F t ++ [x]) := hid (by rw [HF.out]; congr 2; omega)
          have HX := hid hx
          have HX2 : Hid (t + 1 ≤ h + 1 - k) := hid (by omega)
          have hx9 : x ≤ 9 := by omega
          clear ho hb hx ht
          go_wp2_with (at_builtin; refine wpList_append_int rfl _ _ 22 3 rfl Tryz.underlying22 Tryz.info3 w'.heap.size _ _ x rfl HO2.out rfl rfl hl48 hz2 ?_; rintro q2 w6 ho6 hb6)
          go_roundw
          case rel => exact ⟨t + 1, x - 1, by have := HX.out; omega, HX2.out, by go_num, (by rw [HS.out, ← List.append_assoc]; exact ho6), HB2.out.trans hb6⟩
          case measure => simp [intOf] <;> omega
        · have HS : Hid (swL G (k + 1) = P ++ F t) := hid (by rw [HSw.out, HP.out, HE.out k t (by omega)])
          clear ho hb hx ht
          go_wp2
          go_roundw
          case rel => exact ⟨k + 1, by omega, by go_num, (by rw [HS.out]; exact HO2.out), HB2.out⟩
          case measure => simp [intOf] <;> omega
    · obtain rfl : k = h + 1 := by omega
      rw [HEnd.out] at HO
      go_wp2
      go_ret
      exact ⟨_, rfl, HO.out.mono hz, below_to HB.out HB1.out⟩
theorem vac_SR (v : Value) (xs : List Int) (h : Nat) (w0 : World) (b : Nat) (W : World) (hv : Ints w0 v xs) (hg : good xs = true) (hh : rkN xs = h + 1) (h9 : h ≤ 9) (hS : SR w0 b v W) :
    Calls Tryz.prog 142 #[.agg #[v]] W fun (r : Ending) w' => ∃ q, r = Ending.returned q ∧ Ints w' q (wVac h) ∧ SR w0 b v w' :=
  (rvVacuate_any v xs h W (hv.below hS.below) hg hh h9).mono fun _ _ ⟨q, h1, h2, h3⟩ => ⟨q, h1, h2.ints, hS.to h3⟩
theorem word_SR (v u : Value) (xs ws : List Int) (w0 : World) (b s : Nat) (W : World) (hv : Ints w0 v xs) (hu : Ints W u ws) (hg : good xs = true) (hS : SR w0 b v W) (hs : s < 2 ^ xs.length) (hw : inW (rkN xs) ws = true) (hm : ws.length ≤ 1048576) :
    Calls Tryz.prog 141 #[.agg #[v], .int .i64 s, u] W fun q w' => q = .returned (.int .i64 (togW xs s (rkW (rankL xs) ws) : Nat)) ∧ SR w0 b v w' :=
  (rvWord_any v u xs ws s W (hv.below hS.below) hu hg hs hw hm).mono fun _ _ ⟨h1, h2⟩ => ⟨h1, hS.to h2⟩
set_option maxHeartbeats 800000 in
theorem specRowvacuation_any (v : Value) (xs : List Int) (s : Int) (w : World) (hv : Ints w v xs) (hl : xs.length ≤ 1048576) (wf : (Lit.int .i64 s).wf = true) :
    Calls Tryz.prog 83 #[.agg #[v], .int .i64 s] w fun r w' => r = .returned (.tuple #[.int .i64 (ansSW wVac xs s), .bool (okRI xs s)]) ∧ Below w.heap.size w w' := by
  have HV := hid hv
  clear hv wf
  go_enter Tryz.func83, Tryz.ntmps83
  have HB := hid (below_alloc (Below.refl _ w) (.cells #[v] 28))
  have A0 := hid (At.newAt w v 28 w.heap.size (by simp))
  go_wp2_with fail
  refine (rvIn_any _ xs s _ (HV.out.below HB.out) hl).mono ?_
  rintro e w' ⟨rfl, hb⟩
  replace HB := hid (below_to HB.out hb)
  replace A0 := hid (A0.out.below hb)
  clear hb
  cases hq : okRI xs s
  · have HO := hid hq
    clear hq
    have ebox0 := A0.out.1
    go_wp2
    go_ret2
    exact ⟨ret_ib (ansSW_no HO.out).symm HO.out.symm, HB.out⟩
  · have HO := hid hq
    obtain ⟨z, rfl, hg, hr, hz, hi⟩ := okRI_all hq
    have HG := hid hg
    have HZ := hid hz
    obtain ⟨h, hh, h9⟩ := rkN_some hg
    have HAn := hid (ansSW_yes (f := wVac) hq hh)
    have HIn : Hid (inW (rkN xs) (wVac h) = true) := hid (inW_wVac (by omega))
    have hln := wVac_length h9
    clear hq hg hr hz hi
    have HV1 := hid (HV.out.below HB.out)
    have HS := hid (show SR w' w.heap.size v w' from ⟨A0.out, Below.refl _ _⟩)
    have hbx := A0.out.1
    have hln2 : (wVac h).length ≤ 1048576 := by omega
    go_wp2_with fail
    go_region_held3 (fun W => W.cell? ⟨w.heap.size, 0, none⟩ = some v ∧ Hid (SR w' w.heap.size v W)) (first | exact ⟨HS3.out.at_.1, HS3⟩ | exact ⟨HS2.out.at_.1, HS2⟩ | exact ⟨HS.out.drew.at_.1, hid HS.out.drew⟩) (first | (go_at_call 142; refine (vac_SR v xs h w' w.heap.size _ HV1.out HG.out hh h9 (Hid.out (by first | assumption | exact hid HS.out.drew))).mono ?_; rintro e' w4 ⟨q4, rfl, hu4, hs4⟩; have HU4 := hid hu4; have HS2 := hid hs4; clear hu4 hs4) | (go_at_call 141; refine (word_SR v _ xs _ w' w.heap.size z _ HV1.out HU4.out HG.out HS2.out HZ.out HIn.out hln2).mono ?_; rintro e' w5 ⟨rfl, hs5⟩; have HS3 := hid hs5; clear hs5))
    have HB3 := hid (below_to HB.out HS3.out.below)
    clear hbx
    go_wp2
    go_ret2
    exact ⟨ret_ib HAn.out.symm HO.out.symm, HB3.out⟩
end Go.Proofs.YtbmhaamenjhjfaaGreatDoor
