/- Arrays in the program: what they are, lists of fillings, the word of rowmotion, fillings of lists. -/
import Derived.Test.YtgepbekdgocnpabArJ
import Derived.Test.YtgepbekdgocnpabArT
import Derived.Test.YtgepbekdgocnpabRev
namespace Go.Proofs.Ytgepbekdgocnpab
open Go.RowKit Go.WideShapes Go.ChangeShapes
set_option linter.unusedVariables false

theorem leN_rngH {xs f : List Int} {e : Nat} {g : Int} {k : Nat} (hr : ∀ j, j < k → 0 ≤ f.getD j 0 ∧ f.getD j 0 ≤ 20) (g0 : 0 ≤ g) (g1 : g ≤ 1) : 0 ≤ leN xs f e g k ∧ leN xs f e g k ≤ 21 :=
  ⟨leN_zero_le _ _ _ _ _, leN_le.2 ⟨by omega, fun j hj _ => by have := hr j hj; omega⟩⟩
theorem labAt_rngH {xs f : List Int} {m g : Int} {e : Nat} (h : labAt xs f m g e = true) (m1 : m ≤ 20) : 0 ≤ f.getD e 0 ∧ f.getD e 0 ≤ 20 := by
  obtain ⟨h1, h2⟩ := labAt_iff.1 h
  have := leN_zero_le xs f e g e
  omega
theorem leastLabelH_any (v u : Value) (xs f : List Int) (e : Nat) (g : Int) (w : World) (hv : Ints w v xs) (hu : Ints w u f) (hg : good xs = true) (he : e < xs.length) (hf : e ≤ f.length) (hr : ∀ j, j < e → 0 ≤ f.getD j 0 ∧ f.getD j 0 ≤ 20) (g0 : 0 ≤ g) (g1 : g ≤ 1) :
    Calls Try.prog 71 #[.agg #[v], u, .int .i64 e, .int .i64 g] w fun r w' => r = .returned (.int .i64 (leN xs f e g e)) ∧ Below w.heap.size w w' := by
  obtain ⟨A, c, rfl, hA⟩ := hv
  obtain ⟨B, d, rfl, hB⟩ := hu
  obtain ⟨b, o, rfl, hbl, hc⟩ := hA (by intro h; rw [h] at he; simp at he)
  have hcell := hc e he
  have hok := okAt_small (good_at hg he) (by have := (good_length hg).2; omega)
  have hl10 := (good_length hg).2
  obtain ⟨z0, hz0⟩ : ∃ z, xs.getD e 0 = z := ⟨_, rfl⟩
  rw [hz0] at hcell hok
  obtain ⟨z, rfl⟩ := Int.eq_ofNat_of_zero_le hok.1
  have HZ := hid hz0
  have HB := hid hB
  have HR := hid hr
  clear hA hB hc hg hz0 hr
  go_enter Try.func71, Try.ntmps71
  go_wp2
  go_loop [9, 12] (fun q i => ∃ (k : Nat) (t : Int), k ≤ e ∧ i = .int .i64 k ∧ q = .int .i64 t ∧ Hid (leN xs f e g k = t)) (fun _ i => e - (intOf i).toNat)
  case atStart => exact ⟨0, 0, Nat.zero_le _, rfl, rfl, hid rfl⟩
  case round =>
    obtain ⟨k, t, hk, rfl, rfl, HT⟩ := hrel
    by_cases hlt : k < e
    · obtain ⟨b2, o2, rfl, hbl2, hc2⟩ := HB.out (by intro h; simp [h] at hf; omega)
      have hcell2 := hc2 k (by omega)
      have hx := HR.out k hlt
      obtain ⟨x, hxe⟩ : ∃ x, f.getD k 0 = x := ⟨_, rfl⟩
      rw [hxe] at hcell2 hx
      have ht : 0 ≤ t ∧ t ≤ 21 := by rw [← HT.out]; exact leN_rngH (fun j hj => HR.out j (by omega)) g0 g1
      clear hc2
      cases hbit : z.testBit k
      · have HS : Hid (leN xs f e g (k + 1) = t) := hid (by rw [leN, HZ.out, Int.toNat_natCast, hbit, if_neg (by simp)]; exact HT.out)
        have Hbit := hid hbit
        clear hbit hxe
        go_wp2_with (go_at_call 41; refine (hasElement_any z k (by omega) (by omega) _).mono ?_; rw [Hbit.out]; rintro e w' ⟨rfl, rfl⟩)
        go_round
        case rel => exact ⟨k + 1, t, by omega, by go_num, rfl, HS⟩
        case measure => simp [intOf]; omega
      · have HS : Hid (leN xs f e g (k + 1) = max t (x + g)) := hid (by rw [leN, HZ.out, Int.toNat_natCast, hbit, if_pos rfl, HT.out, hxe])
        have Hbit := hid hbit
        have hw : IntKind.i64.wrap (x + g) = x + g := IntWalk.i64_in _ (by omega)
        clear hbit hxe
        go_wp2_with (go_at_call 41; refine (hasElement_any z k (by omega) (by omega) _).mono ?_; rw [Hbit.out]; rintro e w' ⟨rfl, rfl⟩)
        go_round
        case rel => exact ⟨k + 1, _, by omega, by go_num, rfl, hid (by rw [HS.out]; first | rfl | (rw [max_if]) | (simp only [max_if]) | (have := max_if t (x + g); omega))⟩
        case measure => simp [intOf]; omega
    · obtain rfl : k = e := by omega
      go_wp2
      go_ret
      exact ⟨ret_int HT.out.symm, (Below.refl _ _).alloc (Nat.le_refl _) _⟩
set_option maxHeartbeats 400000 in
theorem holdsLabelsH_any (v u : Value) (xs f : List Int) (m g : Int) (w : World) (hv : Ints w v xs) (hu : Ints w u f) (hg : good xs = true) (hl : f.length ≤ 1048576) (m0 : 0 ≤ m) (m1 : m ≤ 20) (g0 : 0 ≤ g) (g1 : g ≤ 1) :
    Calls Try.prog 78 #[.agg #[v], u, .int .i64 m, .int .i64 g] w fun r w' => r = .returned (.bool (labB xs f m g)) ∧ Below w.heap.size w w' := by
  have HV := hid hv
  have HU := hid hu
  have HG := hid hg
  obtain ⟨A, c, rfl, hA⟩ := hv
  obtain ⟨B, d, rfl, hB⟩ := hu
  have HC := hid hB
  clear hA hB hg
  by_cases hn : f.length = xs.length
  · have hne : ((f.length : Int) != (xs.length : Int)) = false := by rw [bne_eq_false_iff_eq, hn]
    have HN := hid hn
    clear hn
    go_enter Try.func78, Try.ntmps78
    go_wp2
    go_loopw [19] (fun i wr => ∃ k : Nat, k ≤ f.length ∧ i = .int .i64 k ∧ Hid (∀ j, j < k → labAt xs f m g j = true) ∧ Below (w.heap.size + 1) (w.alloc (.cells #[.slice A xs.length c] 28)) wr) (fun i _ => f.length - (intOf i).toNat)
    case atStart => exact ⟨0, Nat.zero_le _, rfl, hid (fun j hj => absurd hj (Nat.not_lt_zero _)), Below.refl _ _⟩
    case round =>
      obtain ⟨k, hk, rfl, Hk, hb⟩ := hrel
      by_cases hlt : k < f.length
      · obtain ⟨b, o, rfl, hbl, hc⟩ := HC.out (by intro h; simp [h] at hlt)
        have hcell : wr.cell? ⟨b, o + k, none⟩ = some (.int .i64 (f.getD k 0)) := ((below_box hb).cell (p := ⟨b, o + k, none⟩) hbl).trans (hc k hlt)
        have hbox := box_cell hb 0
        have HB := hid hb
        have HP := hid (labAt_iff (xs := xs) (f := f) (m := m) (g := g) (e := k))
        obtain ⟨x, hx⟩ : ∃ x, f.getD k 0 = x := ⟨_, rfl⟩
        have HX := hid hx
        rw [hx] at hcell HP
        clear hc hb hx
        by_cases hxm : x ≤ m
        · by_cases hle : leN xs f k g k ≤ x
          · have HA := hid (HP.out.2 ⟨hxm, hle⟩)
            obtain ⟨q, hq⟩ : ∃ q, leN xs f k g k = q := ⟨_, rfl⟩
            have HLe := hid (leastLabelH_any _ _ xs f k g wr (Ints.box HV.out HB.out) (Ints.box HU.out HB.out) HG.out (by have := HN.out; omega) (by omega) (fun j hj => labAt_rngH (Hk.out j hj) m1) g0 g1)
            rw [hq] at HLe hle
            clear hq
            go_wp2_with fail
            with_reducible refine HLe.out.mono ?_
            rintro e w2 ⟨rfl, hb2⟩
            have HB2 := hid (HB.out.trans (hb2.mono (by have := HB.out.size; simp at this; omega)))
            clear hb2 hbox hcell
            go_wp2
            go_roundw
            case rel => exact ⟨k + 1, by omega, by go_num, hid (fun j hj => by
              by_cases h : j = k
              · subst h; exact HA.out
              · exact Hk.out j (by omega)), HB2.out⟩
            case measure => simp [intOf]; omega
          · have HA := hid (labB_no hlt (Bool.eq_false_iff.2 fun h => hle (HP.out.1 h).2))
            obtain ⟨q, hq⟩ : ∃ q, leN xs f k g k = q := ⟨_, rfl⟩
            have HLe := hid (leastLabelH_any _ _ xs f k g wr (Ints.box HV.out HB.out) (Ints.box HU.out HB.out) HG.out (by have := HN.out; omega) (by omega) (fun j hj => labAt_rngH (Hk.out j hj) m1) g0 g1)
            rw [hq] at HLe hle
            clear hq
            go_wp2_with fail
            with_reducible refine HLe.out.mono ?_
            rintro e w2 ⟨rfl, hb2⟩
            have HB2 := hid (HB.out.trans (hb2.mono (by have := HB.out.size; simp at this; omega)))
            clear hb2 hbox hcell
            go_wp2
            go_ret
            exact ⟨ret_bool HA.out.symm, below_box HB2.out⟩
        · have HA := hid (labB_no hlt (Bool.eq_false_iff.2 fun h => hxm (HP.out.1 h).1))
          go_wp2
          go_ret
          exact ⟨ret_bool HA.out.symm, below_box HB.out⟩
      · obtain rfl : k = f.length := by omega
        have HA := hid (labB_yes HN.out Hk.out)
        go_wp2
        go_ret
        exact ⟨ret_bool HA.out.symm, below_box hb⟩
  · have HA := hid (labB_len (m := m) (g := g) hn)
    have hne : ((f.length : Int) != (xs.length : Int)) = true := by rw [bne_iff_ne]; omega
    go_enter Try.func78, Try.ntmps78
    go_wp2
    go_ret
    exact ⟨ret_bool HA.out.symm, below_alloc (Below.refl _ w) _⟩
theorem implIsArray_any (v : Value) (xs : List Int) (u : Value) (f : List Int) (b : Int) (w : World) (hv : Ints w v xs) (hl : xs.length ≤ 1048576) (hu : Ints w u f) (hm : f.length ≤ 1048576) (wf : (Lit.int .i64 b).wf = true) :
    Calls Try.prog 65 #[.agg #[v], u, .int .i64 b] w fun r w' => r = .returned (.tuple #[.bool (okAr xs f b), .bool (okIA xs f b)]) ∧ Below w.heap.size w w' := by
  have HV := hid hv
  have HU := hid hu
  obtain ⟨A, c, rfl, -⟩ := hv
  obtain ⟨B, d, rfl, -⟩ := hu
  cases hg : good xs
  · have HG := hid hg
    have HI := hid (okIA_no1 (f := f) (b := b) hg)
    have HO := hid (okAr_no HI.out)
    clear hg
    go_enter Try.func65, Try.ntmps65
    have HB := hid (below_alloc (Below.refl _ w) (.cells #[(.slice A xs.length c)] 28))
    have A0 := hid (At.newAt w (.slice A xs.length c) 28 w.heap.size (by simp))
    go_wp2_with fail
    refine (implIsPoset_any _ xs _ (HV.out.below HB.out) hl).mono ?_
    rw [HG.out]
    rintro e w' ⟨rfl, hb⟩
    replace HB := hid (below_to HB.out hb)
    replace A0 := hid (A0.out.below hb)
    clear hb
    have ebox0 := A0.out.1
    go_wp2
    go_ret2
    exact ⟨ret_bb HO.out.symm HI.out.symm, HB.out⟩
  cases hb : hiB b
  · have HG := hid hg
    have HD := hid hb
    have HI := hid (okIA_no2 (xs := xs) (f := f) hb)
    have HO := hid (okAr_no HI.out)
    clear hg hb
    go_enter Try.func65, Try.ntmps65
    have HB := hid (below_alloc (Below.refl _ w) (.cells #[(.slice A xs.length c)] 28))
    have A0 := hid (At.newAt w (.slice A xs.length c) 28 w.heap.size (by simp))
    go_wp2_with fail
    refine (implIsPoset_any _ xs _ (HV.out.below HB.out) hl).mono ?_
    rw [HG.out]
    rintro e w' ⟨rfl, hb⟩
    replace HB := hid (below_to HB.out hb)
    replace A0 := hid (A0.out.below hb)
    clear hb
    go_wp2_with (go_at_call 40; refine (isHigh_any b _).mono ?_; rw [HD.out]; rintro e w' ⟨rfl, rfl⟩)
    go_ret2
    exact ⟨ret_bb HO.out.symm HI.out.symm, HB.out⟩
  by_cases hn : f.length = xs.length
  · have HG := hid hg
    have HD := hid hb
    have HI := hid (okIA_yes hg hb hn)
    have HO := hid (okAr_lab HI.out)
    have heq : ((f.length : Int) == (xs.length : Int)) = true := by rw [beq_iff_eq]; omega
    have hne : ((f.length : Int) != (xs.length : Int)) = false := by rw [bne_eq_false_iff_eq]; omega
    obtain ⟨h1, h2⟩ := hiB_all hb
    obtain ⟨m, rfl⟩ := Int.eq_ofNat_of_zero_le h1
    have HLa := hid (fun W hW hU => holdsLabelsH_any (.slice A xs.length c) (.slice B f.length d) xs f m 0 W hW hU hg hm h1 h2 (by omega) (by omega))
    clear hg hb h1 h2 hn
    go_enter Try.func65, Try.ntmps65
    have HB := hid (below_alloc (Below.refl _ w) (.cells #[(.slice A xs.length c)] 28))
    have A0 := hid (At.newAt w (.slice A xs.length c) 28 w.heap.size (by simp))
    go_wp2_with fail
    refine (implIsPoset_any _ xs _ (HV.out.below HB.out) hl).mono ?_
    rw [HG.out]
    rintro e w' ⟨rfl, hb⟩
    replace HB := hid (below_to HB.out hb)
    replace A0 := hid (A0.out.below hb)
    clear hb
    have ebox0 := A0.out.1
    go_wp2_with (first | (go_at_call 40; refine (isHigh_any _ _).mono ?_; rw [HD.out]; rintro e w' ⟨rfl, rfl⟩) | fail)
    clear ebox0
    refine (HLa.out _ (HV.out.below HB.out) (HU.out.below HB.out)).mono ?_
    rintro e w1 ⟨rfl, hb⟩
    replace HB := hid (below_to HB.out hb)
    clear hb heq hne
    go_wp2
    go_ret2
    exact ⟨ret_bb HO.out.symm HI.out.symm, HB.out⟩
  · have HG := hid hg
    have HD := hid hb
    have HI := hid (okIA_no3 (b := b) hn)
    have HO := hid (okAr_no HI.out)
    have heq : ((f.length : Int) == (xs.length : Int)) = false := by rw [beq_eq_false_iff_ne]; omega
    have hne : ((f.length : Int) != (xs.length : Int)) = true := by rw [bne_iff_ne]; omega
    clear hg hb hn
    go_enter Try.func65, Try.ntmps65
    have HB := hid (below_alloc (Below.refl _ w) (.cells #[(.slice A xs.length c)] 28))
    have A0 := hid (At.newAt w (.slice A xs.length c) 28 w.heap.size (by simp))
    go_wp2_with fail
    refine (implIsPoset_any _ xs _ (HV.out.below HB.out) hl).mono ?_
    rw [HG.out]
    rintro e w' ⟨rfl, hb⟩
    replace HB := hid (below_to HB.out hb)
    replace A0 := hid (A0.out.below hb)
    clear hb
    have ebox0 := A0.out.1
    go_wp2_with (go_at_call 40; refine (isHigh_any b _).mono ?_; rw [HD.out]; rintro e w' ⟨rfl, rfl⟩)
    go_ret2
    exact ⟨ret_bb HO.out.symm HI.out.symm, HB.out⟩
theorem cloneA_any (v : Value) (xs : List Int) (w : World) (hv : Ints w v xs) (hl : xs.length ≤ 1048576) :
    Calls Try.prog 47 #[v] w fun (r : Ending) w' => ∃ u, r = Ending.returned u ∧ OwnI 3 w' w.heap.size u xs ∧ Below w.heap.size w w' := by
  have HV := hid hv
  obtain ⟨A, c, rfl, hA⟩ := hv
  have HA := hid hA
  clear hA
  have qT : ∀ (w : World) (a : Option Addr) (n c n' c' : Nat), (binOp .eql 22 (.slice a n c) (.slice none n' c')).run Try.prog w = .ok (.bool a.isNone) w := fun w a n c n' c' => Lib.run_eql_slice_nil w _ _ a n c n' c' Try.underlying22
  rcases A with _ | ⟨b, o, pt⟩
  · by_cases hx : xs = []
    · subst hx
      go_enter Try.func47, Try.ntmps47
      go_wp2
      go_ret
      exact ⟨_, rfl, OwnI.nil _ _ _, Below.refl _ _⟩
    · obtain ⟨b, o, h, -⟩ := HA.out hx
      cases h
  · skip
    go_enter Try.func47, Try.ntmps47
    go_wp2_with (at_builtin; refine wpList_append_ints rfl _ _ 22 3 rfl Try.underlying22 Try.info3 w.heap.size _ [] rfl (OwnI.empty 3 w) _ xs rfl (HV.out.alloc _) (by simpa using hl) (by simp) ?_; rintro u w1 ho hb)
    go_ret
    exact ⟨_, rfl, by simpa using ho, (below_alloc (Below.refl _ w) _).trans hb⟩
theorem reverseA_any (v : Value) (xs : List Int) (B : Nat) (w : World) (hv : OwnI 3 w B v xs) (hl : xs.length ≤ 1048576) :
    Calls Try.prog 54 #[v] w fun r w' => r = .returned (.tuple #[]) ∧ OwnI 3 w' B v xs.reverse ∧ w.grownBy w' v.ownBlock := by
  have HO := hid hv
  obtain ⟨A, c, rfl, hA⟩ := hv.shape
  have HA := hid hA
  clear hA hv
  go_enter Try.func54, Try.ntmps54
  go_wp2
  go_loopw [2, 3] (fun i j wr => ∃ (k : Nat) (x : Int), i = .int .i64 k ∧ j = .int .i64 x ∧ k ≤ xs.length ∧ x + k + 1 = xs.length ∧ wr.ownsRow B 3 1 (.slice A xs.length c) xs.length ((revK xs k).map (Value.int .i64)) ∧ w.grownBy wr (Value.slice A xs.length c).ownBlock) (fun i _ _ => xs.length - (intOf i).toNat)
  case atStart => exact ⟨0, (xs.length : Int) - 1, rfl, rfl, Nat.zero_le _, by omega, by rw [revK_zero]; exact HO.out, World.grownBy.refl _ _⟩
  case round =>
    obtain ⟨k, x, rfl, rfl, hk, hx, ho, hg⟩ := hrel
    by_cases hlt : (k : Int) < x
    · obtain ⟨m, rfl⟩ := Int.eq_ofNat_of_zero_le (show 0 ≤ x by omega)
      obtain ⟨g, rfl, hgl, hgB⟩ := HA.out (by intro h; simp [h] at hx; omega)
      have hm : xs.length - 1 - k = m := by omega
      obtain ⟨h1, h2⟩ := revK_mid xs k (by omega)
      have h3 := revK_step xs k (by omega)
      rw [hm] at h2 h3
      have hck : wr.cell? ⟨g, k, none⟩ = some (.int .i64 (xs.getD k 0)) := by
        rw [ho.cellAt k (by omega), List.getElem?_map, getD_eq (revK xs k) k (by rw [revK_length]; omega), h1]; rfl
      have hcm : wr.cell? ⟨g, m, none⟩ = some (.int .i64 (xs.getD m 0)) := by
        rw [ho.cellAt m (by omega), List.getElem?_map, getD_eq (revK xs k) m (by rw [revK_length]; omega), h2]; rfl
      have hfk := ho.frozenAt k
      have hfm := ho.frozenAt m
      obtain ⟨p, hp⟩ : ∃ p, xs.getD k 0 = p := ⟨_, rfl⟩
      obtain ⟨q, hq⟩ : ∃ q, xs.getD m 0 = q := ⟨_, rfl⟩
      rw [hp, hq] at h3
      rw [hp] at hck
      rw [hq] at hcm
      have H3 := hid h3
      have Ho := hid ho
      have Hg := hid hg
      have hm1 : m < xs.length := by omega
      have hk1 : k < xs.length := by omega
      have hkm : k < m := by omega
      have HX := hid hx
      clear hp hq h1 h2 h3 ho hg hm hx
      go_wp2_with fail
      go_region
      go_wp2
      go_roundw
      case rel => exact ⟨k + 1, (m : Int) - 1, by go_num, rfl, by omega, by have := HX.out; omega, (by rw [← H3.out, List.map_set, List.map_set]; exact ((Ho.out.stored k (.int .i64 q)).1.stored m (.int .i64 p)).1), grown_drew (grown_setCell (grown_setCell Hg.out k _) m _)⟩
      case measure => simp [intOf]; omega
    · have hr := hid (revK_full xs k (by omega))
      have Ho := hid ho
      have Hg := hid hg
      clear ho hg
      go_wp2
      go_end0
      refine ⟨rfl, ?_, Hg.out⟩
      unfold OwnI
      rw [List.length_reverse, ← hr.out]
      exact Ho.out
theorem Blk.ints_n {w : World} {g c n : Nat} {t : TypeId} {C : Array Value} {f : List Int} (h : Blk w g t C) (hn : f.length = n) (hc : ∀ j, j < n → C[j]? = some (.int .i64 (f.getD j 0))) : Ints w (.slice (some ⟨g, 0, none⟩) n c) f := by
  subst hn
  refine ⟨_, c, rfl, fun _ => ⟨g, 0, rfl, h.lt, fun j hj => ?_⟩⟩
  rw [Nat.zero_add, h.cell]; exact hc j hj
theorem numsSlice (W : World) (b : Nat) (n : Nat) (h : n ≤ 10) : (Instr.sliceAt 54 (.pointer (some ⟨b, 0, none⟩)) none (some (.int .i64 (n : Int))) none).run Try.prog W = .ok (.slice (some ⟨b, 0, none⟩) n 10) W := by
  have hl : Try.prog.arrayLen 54 = 10 := by kernel_rfl
  have hs : (sizeOf (Try.prog.elem 54)).run Try.prog W = .ok 1 W := by kernel_rfl
  rw [run_sliceAt_array_h W 54 ⟨b, 0, none⟩ (by kernel_rfl) .i64 n (by omega) (by rw [hl]; omega), hs]
  simp [slicedAt, hl, Addr.add]
theorem list_any (v : Value) (xs f : List Int) (b : Int) (w : World) (hv : Ints w v xs) (hl10 : xs.length ≤ 10) (hf : f.length = xs.length) :
    Calls Try.prog 53 #[.agg (fc f b), .agg #[v]] w fun (r : Ending) w' => ∃ q, r = Ending.returned q ∧ OwnI 3 w' w.heap.size q f ∧ Below w.heap.size w w' := by
  have HGet := hid (fun j (hj : j < 10) => fc_get (f := f) (b := b) hj)
  obtain ⟨C, hC⟩ : ∃ C, fc f b = C := ⟨_, rfl⟩
  rw [hC] at HGet ⊢
  obtain ⟨n, hn⟩ : ∃ n, xs.length = n := ⟨_, rfl⟩
  obtain ⟨A, c, rfl, -⟩ := hv
  rw [hn] at hl10 hf ⊢
  have hfm : f.length ≤ 1048576 := by omega
  have HI : Hid (Ints ((w.alloc (.cells C 56)).alloc (.cells #[.slice A n c] 28)) (.slice (some ⟨w.heap.size, 0, none⟩) n 10) f) := hid (((Blk.new w 56 C).alloc _).ints_n hf (fun j hj => HGet.out j (by omega)))
  have HB := hid (below_alloc (below_alloc (Below.refl _ w) (.cells C 56)) (.cells #[.slice A n c] 28))
  clear hC hn hf
  have hsl := fun W => numsSlice W w.heap.size n hl10
  go_enter Try.func53, Try.ntmps53
  go_wp2_with fail
  clear hsl
  refine (cloneA_any _ f _ HI.out hfm).mono ?_
  rintro e w1 ⟨q, rfl, ho, hb⟩
  have HO := hid (ho.mono HB.out.size)
  have HB1 := hid (below_to HB.out hb)
  clear ho hb
  go_wp2
  go_ret
  exact ⟨_, rfl, HO.out, HB1.out⟩
theorem mkL_succA (k : Nat) (g : Nat → Nat) : mkL (k + 1) g = mkL k g ++ [((g k : Nat) : Int)] := by simp [mkL, List.range_succ]
theorem buildFill (b : Int) : Try.prog.built 56 [(1, .int .i64 b)] = some (fc [] b) := by kernel_rfl
theorem buildNone : Try.prog.built 56 [] = some (fc [] 0) := by kernel_rfl
theorem fill_bnW {w : World} {ops : Array Oper} {rest : List Oper} {o : Oper} {a : Act} {Q : Exit → Act → World → Prop} (hgd : o.guard = none) (parts : Array (Nat × Operand)) (ho : o.op = .build 56 parts) (C : Array Value)
    (hb : Try.prog.built 56 (parts.map fun (i, x) => (i, a.eval x)).toList = some C)
    (h : wpList Try.prog ops Q rest (a.put o.dst (.agg C)) w) : wpList Try.prog ops Q (o :: rest) a w :=
  wpList_build hgd _ parts ho (by rw [hb]; rfl) (by rw [hb]; exact h)
theorem numsAll (W : World) (b : Nat) : (Instr.sliceAt 54 (.pointer (some ⟨b, 0, none⟩)) none none none).run Try.prog W = .ok (.slice (some ⟨b, 0, none⟩) 10 10) W := by
  have hl : Try.prog.arrayLen 54 = 10 := by kernel_rfl
  have hs : (sizeOf (Try.prog.elem 54)).run Try.prog W = .ok 1 W := by kernel_rfl
  rw [run_sliceAt_array_all W 54 ⟨b, 0, none⟩ (by kernel_rfl), hs]
  simp [slicedAt, hl, Addr.add]
theorem fc_copy {f : List Int} {b : Int} (h : f.length ≤ 10) : ((fc [] b).toList.take 0 ++ (f.map (Value.int .i64) ++ (fc [] b).toList.drop (0 + (f.map (Value.int .i64)).length))).toArray = fc f b := by
  unfold fc
  congr 1
  refine List.ext_getElem (by simp; omega) fun i h1 h2 => ?_
  have h3 : i < 11 := by simpa using h2
  simp only [List.take_zero, List.nil_append]
  by_cases hi : i < f.length
  · rw [List.getElem_append_left (by simpa using hi)]
    simp [List.getD, hi]; omega
  · rw [List.getElem_append_right (by simpa using hi)]
    simp [List.getD, hi]
    have e : f.length + (i - f.length) = i := by omega
    simp [e]
theorem fcLit (b : Int) : (#[Value.int .i64 0, Value.int .i64 0, Value.int .i64 0, Value.int .i64 0, Value.int .i64 0, Value.int .i64 0, Value.int .i64 0, Value.int .i64 0, Value.int .i64 0, Value.int .i64 0, Value.int .i64 b] : Array Value) = fc [] b := rfl
theorem intSizeA : (Try.prog.info? 3).map (·.size) = some 1 := by kernel_rfl
theorem fill_cpW {w : World} {ops : Array Oper} {rest : List Oper} {o : Oper} {a : Act} {Q : Exit → Act → World → Prop} (hgd : o.guard = none) (x y : Operand)
    (ho : o.op = .call { callee := .builtin .copy, args := #[x, y], argTypes := #[22, 22] }) (g : Nat) (f : List Int) (b : Int) (ad : Addr) (n d : Nat)
    (hx : a.eval x = .slice (some ⟨g, 0, none⟩) 10 10) (hy : a.eval y = .slice (some ad) n d) (hg : Blk w g 56 (fc [] b)) (hn : f.length = n) (hf : n ≤ 10)
    (hsrc : ∀ j, j < n → w.cell? (ad.add j) = some (.int .i64 (f.getD j 0)))
    (h : ∀ w2, Hid (Blk w2 g 56 (fc f b)) → Hid (Below g w w2) → wpList Try.prog ops Q rest (a.put o.dst (goInt (f.map (Value.int .i64)).length)) w2) : wpList Try.prog ops Q (o :: rest) a w := by
  have hsz := fc_size [] b
  refine wpList_copy_own hgd x y _ _ ho 3 Try.underlying22 intSizeA g 0 10 10 ad n d hx hy (fc [] b) 56 hg (f.map (Value.int .i64)) (by rw [List.length_map, hn]; exact (Nat.min_eq_left hf).symm) (fun j v hv => ?_) (by rw [List.length_map]; omega) (fun v hv => by obtain ⟨y, -, rfl⟩ := List.mem_map.1 hv; rfl) ?_
  · have hj : j < f.length := by have := (List.getElem?_eq_some_iff.1 hv).1; simpa using this
    rw [hsrc j (by omega), ← hv]
    simp [List.getD, hj]
  · rw [fc_copy (by omega)]
    exact h _ (hg.setRowA) (below_setRow (Below.refl _ _) (Nat.le_refl _) _)
theorem fill_ret2 {fn : Func} {p u : Tmp} (h : fn.results = #[.cell p 56, .tmp u]) (tmps : Array Value) (w : World) (g : Nat) (C : Array Value) (hp : tmps.getD p undef = .pointer (some ⟨g, 0, none⟩)) (hg : Blk w g 56 C) (hs : C.size = 11) :
    (results fn tmps).run Try.prog w = .ok (.tuple #[.agg C, tmps.getD u undef]) w := by
  rw [results_cell_tmp h, hp]
  simp [asAddr, run_loadVar_row w g 56 56 C (0, 0) _ hg Try.underlying56 rfl (by rw [fillInfo, hs])]
set_option maxHeartbeats 1600000 in
theorem fillingOf_any (v u : Value) (xs f : List Int) (b : Int) (w : World) (hv : Ints w v xs) (hu : Ints w u f) (hl : xs.length ≤ 1048576) (hm : f.length ≤ 1048576) (wf : (Lit.int .i64 b).wf = true) :
    Calls Try.prog 44 #[.agg #[v], u, .int .i64 b] w fun r w' => r = .returned (.tuple #[.agg (if okAr xs f b then fc f b else fc [] 0), .bool (okAr xs f b)]) ∧ Below w.heap.size w w' := by
  have HV := hid hv
  have HU := hid hu
  obtain ⟨B, d, rfl, hB⟩ := hu
  have HBc := hid hB
  have HIs := hid (fun W hW hU => implIsArray_any v xs (.slice B f.length d) f b W hW hl hU hm wf)
  have HZs := hid (fc_size [] 0)
  have HZo := hid (fc_one [] 0)
  obtain ⟨Z, hZ⟩ : ∃ Z, fc [] 0 = Z := ⟨_, rfl⟩
  have HZ := hid hZ
  rw [hZ] at HZs HZo ⊢
  clear hv hB hZ
  cases hq : okAr xs f b
  · have HAns : Hid ((if false = true then fc f b else Z) = Z) := hid (by simp)
    rw [HAns.out]
    have HQ := hid hq
    have HB := hid (below_alloc (below_alloc (Below.refl _ w) (.cells #[v] 28)) (.cells Z 56))
    have HR : Hid (Blk ((w.alloc (.cells #[v] 28)).alloc (.cells Z 56)) (w.heap.size + 1) 56 Z) := hid (Blk.newAt _ _ _ _ (by simp))
    go_enter Try.func44, Try.ntmps44
    go_wp2_with fail
    rw [show #[Value.int .i64 0, Value.int .i64 0, Value.int .i64 0, Value.int .i64 0, Value.int .i64 0, Value.int .i64 0, Value.int .i64 0, Value.int .i64 0, Value.int .i64 0, Value.int .i64 0, Value.int .i64 0] = Z from HZ.out]
    refine (HIs.out _ (HV.out.below HB.out) (HU.out.below HB.out)).mono ?_
    rw [hq]
    rintro e w1 ⟨rfl, hb⟩
    have HR1 := hid (HR.out.below hb HR.out.lt)
    have HB1 := hid (below_to HB.out hb)
    have hwR : w.heap.size ≤ w.heap.size + 1 := by omega
    clear hb HR HB
    have HB9 := hid (below_setRow (B := w.heap.size) HB1.out hwR Z)
    have HR9 := hid (HR1.out.setRowA (C := Z))
    clear hq
    have hbn : Try.prog.built 56 [] = some Z := by rw [← HZ.out]; exact buildNone
    go_wp2_with (first | (refine fill_bnW rfl _ rfl Z (by first | exact hbn | simpa using hbn) ?_) | (refine fill_stW rfl _ _ rfl _ Z _ rfl rfl HR1.out HZs.out HZs.out HZo.out ?_))
    exact bodyPost_ret (fill_ret2 rfl _ _ (w.heap.size + 1) Z rfl HR9.out HZs.out) rfl ⟨rfl, HB9.out⟩
  · have HQ := hid hq
    obtain ⟨hg, b0, b1, hr⟩ := okAr_all hq
    have hl10 := (good_length hg).2
    have hx1 := (good_length hg).1
    have hfl := hr.len
    have hf10 : f.length ≤ 10 := by omega
    have hf1 : 0 < f.length := by omega
    obtain ⟨fb, fo, rfl, hfb, hfc⟩ := HBc.out (by intro h; rw [h] at hf1; simp at hf1)
    have HFs := hid (fc_size f b)
    have HFo := hid (fc_one f b)
    have HFc := hid hfc
    have HSrc : Hid (∀ W, Below w.heap.size w W → ∀ j, j < f.length → W.cell? ((⟨fb, fo, none⟩ : Addr).add j) = some (.int .i64 (f.getD j 0))) := hid (fun W hW j hj => by
      have e1 : (⟨fb, fo, none⟩ : Addr).add j = ⟨fb, fo + j, none⟩ := by unfold Addr.add; split <;> simp_all
      rw [e1, hW.cell (p := ⟨fb, fo + j, none⟩) hfb]; exact HFc.out j hj)
    rw [if_pos rfl]
    obtain ⟨n, hn⟩ : ∃ n, f.length = n := ⟨_, rfl⟩
    have HN := hid hn
    rw [hn] at HU HIs HSrc hf10 ⊢
    clear hq hg hr hl10 hx1 hfl hfc hf1 hn
    have HB := hid (below_alloc (below_alloc (Below.refl _ w) (.cells #[v] 28)) (.cells Z 56))
    have HR : Hid (Blk ((w.alloc (.cells #[v] 28)).alloc (.cells Z 56)) (w.heap.size + 1) 56 Z) := hid (Blk.newAt _ _ _ _ (by simp))
    go_enter Try.func44, Try.ntmps44
    go_wp2_with fail
    rw [show #[Value.int .i64 0, Value.int .i64 0, Value.int .i64 0, Value.int .i64 0, Value.int .i64 0, Value.int .i64 0, Value.int .i64 0, Value.int .i64 0, Value.int .i64 0, Value.int .i64 0, Value.int .i64 0] = Z from HZ.out]
    refine (HIs.out _ (HV.out.below HB.out) (HU.out.below HB.out)).mono ?_
    rw [HQ.out]
    rintro e w1 ⟨rfl, hb⟩
    have HR1 := hid (HR.out.below hb HR.out.lt)
    have HB1 := hid (below_to HB.out hb)
    have hwR : w.heap.size ≤ w.heap.size + 1 := by omega
    clear hb HR HB
    have HB2 := hid (below_alloc HB1.out (.cells (fc [] b) 56))
    have hz1 := HB1.out.size
    have hRz := HR1.out.lt
    go_wp2_with (first
      | (refine fill_cpW rfl _ _ rfl w1.heap.size f b ⟨fb, fo, none⟩ n d rfl rfl (Blk.new w1 56 (fc [] b)) HN.out hf10 (HSrc.out _ HB2.out) ?_; intro w2 HF2 HB3; have HB4 : Hid (Below w.heap.size w w2) := hid (HB2.out.trans (HB3.out.mono hz1)); have HR4 : Hid (Blk w2 (w.heap.size + 1) 56 Z) := hid ((HR1.out.alloc (.cells (fc [] b) 56)).below HB3.out hRz))
      | (refine fill_ldW rfl _ rfl _ rfl _ HF2.out HFs.out ?_)
      | (refine fill_stW rfl _ _ rfl _ _ _ rfl rfl HR4.out HZs.out HFs.out HFo.out ?_))
    have HB9 := hid (below_setRow (B := w.heap.size) HB4.out hwR (fc f b))
    exact bodyPost_ret (fill_ret2 rfl _ _ (w.heap.size + 1) (fc f b) rfl (HR4.out.setRowA (C := fc f b)) HFs.out) rfl ⟨rfl, HB9.out⟩
end Go.Proofs.Ytgepbekdgocnpab
