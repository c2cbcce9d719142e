/- The program's tableaux: rows taken in. -/
import Derived.Test.YtbbkoagjplapkaaRepI
import Derived.Test.YtbbkoagjplapkaaOrder
namespace Go.Proofs.Ytbbkoagjplapkaa
open Go.RowKit Go.WideShapes Go.ChangeShapes
set_option linter.unusedVariables false

theorem tabClosure_any (u : Value) (l : List Int) (b a : Nat) (w : World) (hu : Ints w u l) (h1 : At w a (.int .i64 (b : Int))) :
    Calls Try.prog 83 #[u, .pointer (some ⟨a, 0, none⟩)] w fun r w' => r = .returned (.bool (!decide (l.length = b))) ∧ w = w' := by
  obtain ⟨A, c, rfl, -⟩ := hu
  have hbox := h1.1
  clear h1
  by_cases h : l.length = b
  · have H : Hid ((!decide (l.length = b)) = false) := hid (by simp [h])
    have hne : ((l.length : Int) != (b : Int)) = false := by rw [bne_eq_false_iff_eq, h]
    clear h
    go_enter Try.func83, Try.ntmps83
    go_wp2
    go_ret
    exact ⟨ret_bool H.out.symm, rfl⟩
  · have H : Hid ((!decide (l.length = b)) = true) := hid (by simp [h])
    have hne : ((l.length : Int) != (b : Int)) = true := by rw [bne_iff_ne]; omega
    clear h
    go_enter Try.func83, Try.ntmps83
    go_wp2
    go_ret
    exact ⟨ret_bool H.out.symm, rfl⟩
/-- have all rows b numbers? -/
def evenB (ls : List (List Int)) (b : Nat) : Bool := (List.range ls.length).all fun r => decide ((ls.getD r []).length = b)
theorem evenB_no {ls : List (List Int)} {b r : Nat} (hr : r < ls.length) (h : decide ((ls.getD r []).length = b) = false) : evenB ls b = false := by
  cases hc : evenB ls b
  · rfl
  · have := List.all_eq_true.1 hc r (List.mem_range.2 hr)
    rw [h] at this; cases this
theorem evenB_yes {ls : List (List Int)} {b : Nat} (h : ∀ r, r < ls.length → decide ((ls.getD r []).length = b) = true) : evenB ls b = true :=
  List.all_eq_true.2 fun r hr => h r (List.mem_range.1 hr)
theorem shapeB_even (ls : List (List Int)) : shapeB ls = (sides ls.length (wid ls) && evenB ls (wid ls)) := rfl
set_option maxHeartbeats 800000 in
theorem indexRows_any (v : Value) (ls : List (List Int)) (b a : Nat) (w : World) (hv : IntsSS w v ls) (hl : ls.length ≤ 1048576) (h1 : At w a (.int .i64 (b : Int))) :
    Calls Try.prog 97 #[v, .func (.func 83) #[] #[.pointer (some ⟨a, 0, none⟩)]] w fun (r : Ending) w' => ∃ i : Int, r = Ending.returned (.int .i64 i) ∧ Hid (decide (0 ≤ i) = !evenB ls b) ∧ -1 ≤ i ∧ i ≤ 1048576 ∧ w = w' := by
  have H1 := hid h1
  obtain ⟨A, c, rfl, hA⟩ := hv
  have HA := hid hA
  clear hA h1
  go_enter Try.func97, Try.ntmps97
  go_wp2
  go_loop [8] (fun i => ∃ k : Nat, k ≤ ls.length ∧ i = .int .i64 k ∧ Hid (∀ j, j < k → decide ((ls.getD j []).length = b) = true)) (fun i => ls.length - (intOf i).toNat)
  case atStart => exact ⟨0, Nat.zero_le _, rfl, hid (fun j hj => absurd hj (Nat.not_lt_zero _))⟩
  case round =>
    obtain ⟨k, hk, rfl, Hk⟩ := hrel
    by_cases hlt : k < ls.length
    · obtain ⟨bb, o, u, rfl, hbl, hc, hi⟩ := HA.out k hlt
      have HI := hid hi
      clear hi
      go_wp2_with fail
      clear hc
      refine (tabClosure_any _ (ls.getD k []) b a _ HI.out H1.out).mono ?_
      rintro e w' ⟨rfl, rfl⟩
      cases hq : decide ((ls.getD k []).length = b)
      · have HN := hid (evenB_no hlt hq)
        clear hq
        go_wp2
        go_ret
        exact ⟨_, rfl, hid (by rw [HN.out]; simp), by omega, by omega, rfl⟩
      · have HQ := hid hq
        clear hq
        go_wp2
        go_round
        case rel => exact ⟨k + 1, by omega, by go_num, hid (fun j hj => by
          by_cases h : j = k
          · subst h; exact HQ.out
          · exact Hk.out j (by omega))⟩
        case measure => simp [intOf]; omega
    · have Hk2 := hid (show k = ls.length by omega)
      have hlt' : ¬ (k : Int) < (ls.length : Int) := by omega
      have HN := hid (evenB_yes (ls := ls) (b := b) (fun r hr => Hk.out r (by rw [Hk2.out]; exact hr)))
      clear hlt
      go_wp2
      go_ret
      exact ⟨_, rfl, hid (by rw [HN.out]; rfl), by omega, by omega, rfl⟩
theorem containsRows_any (v : Value) (ls : List (List Int)) (b a : Nat) (w : World) (hv : IntsSS w v ls) (hl : ls.length ≤ 1048576) (h1 : At w a (.int .i64 (b : Int))) :
    Calls Try.prog 82 #[v, .func (.func 83) #[] #[.pointer (some ⟨a, 0, none⟩)]] w fun r w' => r = .returned (.bool (!evenB ls b)) ∧ w = w' := by
  have HP := hid (indexRows_any v ls b a w hv hl h1)
  clear hv h1
  go_enter Try.func82, Try.ntmps82
  go_wp2_with fail
  refine HP.out.mono ?_
  rintro e w' ⟨i, rfl, HI, h1, h2, rfl⟩
  go_wp2
  go_ret
  exact ⟨ret_bool (by rw [← HI.out]), rfl⟩
theorem two_set {W : World} {g : Nat} {t : TypeId} {x0 x1 : Value} (h : Blk W g t #[x0, x1]) (y0 y1 : Value) : Blk ((W.setCell ⟨g, 0, none⟩ y0).setCell ⟨g, 1, none⟩ y1) g t #[y0, y1] := by
  have := (h.set_ 0 y0).set_ 1 y1
  simpa using this
theorem tabB_order {ls : List (List Int)} {b n : Nat} (h : shapeB ls = true) (hb : wid ls = b) (hn : ls.length * b = n) (hf : ∀ e, e < n → 0 ≤ celF ls b e ∧ celF ls b e < n) : tabB ls = orderB (rectL ls.length b) (plc (celF ls b) n n) := by
  subst hb
  subst hn
  rw [tabB_yes h, tabF, okF_of hf, Bool.true_and, rectL_yes (shapeB_L h).sid]
theorem wf_nat {n : Nat} (h : n ≤ 1048576) : (Lit.int .i64 (n : Int)).wf = true := by
  simp only [Lit.wf, Bool.and_eq_true, decide_eq_true_eq]
  have h1 : IntKind.i64.min = -9223372036854775808 := by decide
  have h2 : IntKind.i64.max = 9223372036854775807 := by decide
  rw [h1, h2]; omega
set_option maxRecDepth 100000 in
set_option maxHeartbeats 3200000 in
theorem tableauIn_any (v : Value) (ls : List (List Int)) (w : World) (hv : IntsSS w v ls) (hs : SSmall ls) :
    Calls Try.prog 50 #[v] w fun (r : Ending) w' => ∃ xA xn xc y, r = Ending.returned (.tuple #[.agg #[.slice xA xn xc, y], .bool (tabB ls)]) ∧ (tabB ls = true → .slice xA xn xc = v) ∧ OwnI 3 w' w.heap.size y (ansLT ls) ∧ Below w.heap.size w w' := by
  have HV := hid hv
  have HR := hid hs.2.1
  have hm := hs.1
  obtain ⟨A, c, rfl, -⟩ := hv
  clear hs
  by_cases h0 : ls.length = 0
  · have HN := hid (tabB_no1 (shapeB_no1 (ls := ls) (sides_no0 h0)))
    have h0' : ((ls.length : Int) == 0) = true := by rw [h0]; rfl
    clear h0
    go_enter Try.func50, Try.ntmps50
    go_wp2
    refine bodyPost_ret (v := .tuple #[.agg #[.slice none 0 0, .slice none 0 0], .bool false]) (by simp [results, Try.results50, go_sem]) rfl ⟨none, 0, 0, .slice none 0 0, ret_vbT HN.out.symm, (fun h => absurd h (by rw [HN.out]; decide)), by rw [ansLT_no HN.out]; exact OwnI.nil _ _ _, ?_⟩
    exact below_alloc (Below.refl _ w) _
  have h0' : ((ls.length : Int) == 0) = false := by rw [beq_eq_false_iff_ne]; omega
  obtain ⟨ab, ao, c', hsh, hab, hrow⟩ := HV.out.row0 (by omega)
  injection hsh with hsA hsB hsC
  subst hsA
  subst hsC
  have HRow := hid hrow
  obtain ⟨u, hc, hi⟩ := hrow 0 (by omega)
  obtain ⟨uA, uc, rfl, -⟩ := hi
  have hc0 : (w.alloc (.cells #[.slice none 0 0, .slice none 0 0] 47)).cell? ⟨ab, ao, none⟩ = some (.slice uA (ls.getD 0 []).length uc) := by
    have := (below_alloc (Below.refl _ w) (.cells #[.slice none 0 0, .slice none 0 0] 47)).cell (p := ⟨ab, ao + 0, none⟩) hab
    rw [hc] at this; simpa using this
  have HW0 : Hid (wid ls = (ls.getD 0 []).length) := hid rfl
  have hbl := HR.out 0 (by omega)
  obtain ⟨b, hb⟩ : ∃ x, (ls.getD 0 []).length = x := ⟨_, rfl⟩
  rw [hb] at hc0 HW0 hbl
  have hlp : (0 : Int) < (ls.length : Int) := by omega
  clear hsB hrow hc hb h0
  go_enter Try.func50, Try.ntmps50
  go_wp2
  go_region
  obtain ⟨W, hW⟩ : ∃ W : World, W = ((w.alloc (.cells #[.slice none 0 0, .slice none 0 0] 47)).alloc (.cells #[.int .i64 (b : Int)] 3)).drew := ⟨_, rfl⟩
  have HRes : Hid (Blk W w.heap.size 47 #[.slice none 0 0, .slice none 0 0]) := hid (by subst hW; exact (Blk.new w _ _).alloc _)
  have A5 : Hid (At W (w.heap.size + 1) (.int .i64 (b : Int))) := hid (by subst hW; exact (At.newAt _ _ _ _ (by simp)))
  have HB : Hid (Below w.heap.size w W) := hid (by subst hW; exact (below_alloc (below_alloc (Below.refl _ w) _) _).drew)
  have hzW : w.heap.size + 2 ≤ W.heap.size := by subst hW; simp
  rw [← hW]
  clear hW hc0
  have hbx := A5.out.1
  go_wp2_with fail
  clear hbx
  refine (implRectangle_any (ls.length : Int) (b : Int) W (wf_nat hm) (wf_nat hbl)).mono ?_
  rintro e w1 ⟨p, rfl, hp, -, hb1⟩
  obtain ⟨pA, pc, rfl, -⟩ := hp.shape
  obtain ⟨W1, hW1⟩ : ∃ W1 : World, W1 = w1.alloc (.cells #[.slice pA (rectL (ls.length : Int) (b : Int)).length pc] 52) := ⟨_, rfl⟩
  have HP : Hid (Ints W1 (.slice pA (rectL (ls.length : Int) (b : Int)).length pc) (rectL (ls.length : Int) (b : Int))) := hid (by subst hW1; exact hp.ints.alloc _)
  have A6 : Hid (At W1 w1.heap.size (.slice pA (rectL (ls.length : Int) (b : Int)).length pc)) := hid (by subst hW1; exact At.new _ _ _)
  have hb1' : Below W.heap.size W W1 := by subst hW1; exact below_alloc hb1 _
  have HB1 := hid (below_to HB.out hb1')
  have A51 := hid (A5.out.below hb1')
  have HRes1 := hid (HRes.out.below hb1' (by omega))
  have hz1 := hb1'.size
  obtain ⟨pn, hpn⟩ : ∃ x, (rectL (ls.length : Int) (b : Int)).length = x := ⟨_, rfl⟩
  rw [hpn] at HP A6 hW1 ⊢
  have HPn := hid hpn
  have hsz1 : w1.heap.size < W1.heap.size := by subst hW1; simp
  clear hp hb1 hb1' hpn
  cases hsd : sides (ls.length : Int) (b : Int)
  · have HN : Hid (tabB ls = false) := hid (tabB_no1 (shapeB_no1 (by rw [HW0.out]; exact hsd)))
    have t0 := HRes1.out.cell 0
    have t1 := HRes1.out.cell 1
    have t2 := HRes1.out.frozen 0
    have t3 := HRes1.out.frozen 1
    rw [hW1] at t0 t1 t2 t3
    clear hsd
    go_wp2
    have hE := two_set HRes1.out (.slice none 0 0) (.slice none 0 0)
    have z0 := hE.cell 0
    have z1 := hE.cell 1
    rw [hW1] at z0 z1
    refine bodyPost_ret (v := .tuple #[.agg #[.slice none 0 0, .slice none 0 0], .bool false]) (by simp [results, Try.results50, go_sem, z0, z1]) rfl ⟨none, 0, 0, .slice none 0 0, ret_vbT HN.out.symm, (fun h => absurd h (by rw [HN.out]; decide)), by rw [ansLT_no HN.out]; exact OwnI.nil _ _ _, ?_⟩
    rw [← hW1]
    exact (HB1.out.setCell (p := ⟨w.heap.size, 0, none⟩) (Nat.le_refl _) _).setCell (p := ⟨w.heap.size, 1, none⟩) (Nat.le_refl _) _
  · have HSd := hid hsd
    clear hsd
    go_wp2_with fail
    rw [← hW1]
    clear hW1
    refine (containsRows_any _ ls b (w.heap.size + 1) W1 (HV.out.below HB1.out) hm A51.out).mono ?_
    rintro e w2 ⟨rfl, rfl⟩
    cases hev : evenB ls b
    · have HN : Hid (tabB ls = false) := hid (tabB_no1 (by rw [shapeB_even, HW0.out, hev, Bool.and_false]))
      have t0 := HRes1.out.cell 0
      have t1 := HRes1.out.cell 1
      have t2 := HRes1.out.frozen 0
      have t3 := HRes1.out.frozen 1
      clear hev
      go_wp2
      have hE := two_set HRes1.out (.slice none 0 0) (.slice none 0 0)
      have z0 := hE.cell 0
      have z1 := hE.cell 1
      refine bodyPost_ret (v := .tuple #[.agg #[.slice none 0 0, .slice none 0 0], .bool false]) (by simp [results, Try.results50, go_sem, z0, z1]) rfl ⟨none, 0, 0, .slice none 0 0, ret_vbT HN.out.symm, (fun h => absurd h (by rw [HN.out]; decide)), by rw [ansLT_no HN.out]; exact OwnI.nil _ _ _, ?_⟩
      exact (HB1.out.setCell (p := ⟨w.heap.size, 0, none⟩) (Nat.le_refl _) _).setCell (p := ⟨w.heap.size, 1, none⟩) (Nat.le_refl _) _
    · have hSh : shapeB ls = true := by rw [shapeB_even, HW0.out, HSd.out, hev]; rfl
      have HSh := hid hSh
      have hL := shapeB_L hSh
      have a1 := hL.a1
      have a2 := hL.a2
      have b1 := hL.b1
      have b2 := hL.b2
      have hn10 := hL.n
      have HGr := hid (GridR.of HV.out hL)
      have HGood : Hid (good (rectL (ls.length : Int) (b : Int)) = true) := hid (by rw [rectL_yes HSd.out]; rw [HW0.out] at b1 b2 hn10; exact rectGood a1 a2 b1 b2 hn10)
      rw [HW0.out] at b1 b2 hn10 HGr
      have HPl : Hid (pn = ls.length * b) := hid (by rw [← HPn.out, rectL_yes HSd.out, rect_len])
      have HF : Hid (∀ r c, c < b → cel ls r c = celF ls b (b * r + c)) := hid (fun r c hc => by rw [celF_at ls hc])
      obtain ⟨n, hn⟩ : ∃ n, ls.length * b = n := ⟨_, rfl⟩
      have HOrd := hid (fun h => tabB_order hSh HW0.out hn h)
      have HNo : Hid (∀ e, e < n → ¬ (0 ≤ celF ls b e ∧ celF ls b e < (n : Nat)) → tabB ls = false) := hid (fun e he h => by
        rw [tabB_yes hSh]
        exact tabF_no1 (e := e) (by rw [HW0.out, hn]; exact he) (by rw [HW0.out, hn]; exact h))
      have HLT : Hid (linT ls = plc (celF ls b) n n) := hid (by unfold linT; rw [HW0.out, hn])
      obtain ⟨f, hf⟩ : ∃ f, celF ls b = f := ⟨_, rfl⟩
      rw [hf] at HOrd HNo HF HLT
      have e1 : (ls.length : Int) * (b : Int) = (n : Int) := by rw [← Int.natCast_mul, hn]
      have HN := hid hn
      rw [hn] at hn10 HPl
      obtain rfl : n = pn := HPl.out.symm
      obtain ⟨ab', ao', cv', hsh, -, hrows⟩ := HGr.out
      injection hsh with hsA hsB hsC
      injection hsA with hsA
      injection hsA with hsA1 hsA2
      subst hsA1
      subst hsA2
      have HRows := hid hrows
      have t5 := (A51.out.alloc (.cells #[.int .i64 (-1)] 3)).1
      clear hev hSh hL hf hn hrows hsB hsC
      go_wp2_with fail
      clear t5 e1
      obtain ⟨W3, hW3⟩ : ∃ W3 : World, W3 = W1.alloc (.cells #[.int .i64 (-1)] 3) := ⟨_, rfl⟩
      rw [← hW3]
      have hb3 : Below W1.heap.size W1 W3 := by subst hW3; exact below_alloc (Below.refl _ _) _
      have HB3 := hid (below_to HB1.out hb3)
      have A53 := hid (A51.out.below hb3)
      have A63 := hid (A6.out.below hb3)
      have HRes3 := hid (HRes1.out.below hb3 (by have := hb3.size; omega))
      have HP3 := hid (HP.out.below hb3)
      have HAt3 : Hid (At W3 W1.heap.size (.int .i64 (-1))) := hid (by subst hW3; exact At.new _ _ _)
      have hz3 : W1.heap.size < W3.heap.size := by subst hW3; simp
      clear hW3 hb3
      refine (repeatI_any W1.heap.size n (-1) W3 HAt3.out (by omega)).mono ?_
      rintro e w4 ⟨g, rfl, hg, hblk, hb4⟩
      have HG := hid hblk
      have H4 := hid hb4
      clear hblk hb4
      go_wp2
      go_loopw [44] (fun i wr => ∃ r : Nat, r ≤ ls.length ∧ i = .int .i64 r ∧ Blk wr g 3 (Vals (plc f n (b * r))) ∧ Below W3.heap.size W3 wr ∧ Hid (∀ e, e < b * r → 0 ≤ f e ∧ f e < (n : Nat))) (fun i _ => ls.length - (intOf i).toNat)
      case atStart => exact ⟨0, Nat.zero_le _, rfl, HG.out, H4.out, hid (fun e he => by simp at he)⟩
      case round =>
        obtain ⟨r, hr, rfl, hB, hb, HIn⟩ := hrel
        have HBk := hid hB
        have Hb := hid hb
        clear hB hb
        by_cases hlt : r < ls.length
        · obtain ⟨rg, ro, rc, hc, hgl, hcells⟩ := HRows.out r hlt
          have hcr := ((below_to HB3.out Hb.out).cell (p := ⟨ab, ao + r, none⟩) hab).trans hc
          have HC := hid hcells
          obtain ⟨q, hq⟩ : ∃ q, b * r = q := ⟨_, rfl⟩
          have hqm : (b : Int) * (r : Int) = (q : Int) := by rw [← Int.natCast_mul, hq]
          have HQ := hid hq
          have HQn : Hid (∀ j, j < b → q + j < n) := hid (fun j hj => by rw [← HQ.out, ← HN.out]; exact cell_lt hlt hj)
          have hq10 : q ≤ 10 := by have := HQn.out 0 (by omega); omega
          have HQM := hid hqm
          clear hc hcells hq hqm
          go_wp2
          clear hcr
          go_loopw [51] (fun i wi => ∃ c : Nat, c ≤ b ∧ i = .int .i64 c ∧ Blk wi g 3 (Vals (plc f n (q + c))) ∧ Below W3.heap.size W3 wi ∧ Hid (∀ e, e < q + c → 0 ≤ f e ∧ f e < (n : Nat))) (fun i _ => b - (intOf i).toNat)
          case atStart => exact ⟨0, Nat.zero_le _, rfl, (by rw [Nat.add_zero, ← HQ.out]; exact HBk.out), Hb.out, hid (by rw [Nat.add_zero, ← HQ.out]; exact HIn.out)⟩
          case round =>
            obtain ⟨k, hk, rfl, hB, hb, HIn2⟩ := hrel
            obtain ⟨wi, rfl⟩ : ∃ x, x = wr := ⟨wr, rfl⟩
            have HB2 := hid hB
            have Hb2 := hid hb
            clear hB hb
            by_cases hkb : k < b
            · have hck := ((below_to HB3.out Hb2.out).cell (p := ⟨rg, ro + k, none⟩) hgl).trans (HC.out k hkb)
              rw [HF.out r k hkb, HQ.out] at hck
              have hkn := HQn.out k hkb
              have t6 := (A63.out.below Hb2.out).1
              obtain ⟨y, hy⟩ : ∃ y, f (q + k) = y := ⟨_, rfl⟩
              rw [hy] at hck
              have HY := hid hy
              clear hy
              go_wp2_with fail
              clear hck t6
              refine (hasIndex_any _ (rectL (ls.length : Int) (b : Int)) y _ (HP3.out.below Hb2.out) (by rw [HPn.out]; omega)).mono ?_
              rintro e w5 ⟨rfl, hb5⟩
              have Hb5 := hid (below_to Hb2.out hb5)
              have HB5 := hid (HB2.out.below hb5 HB2.out.lt)
              rw [HPn.out]
              clear hb5
              cases hin : (decide (0 ≤ y) && decide (y < (n : Int)))
              · have HNN : Hid (tabB ls = false) := hid (HNo.out (q + k) hkn (by rw [HY.out]; intro hh; rw [Bool.eq_false_iff] at hin; apply hin; simpa using hh))
                have hR5 := HRes3.out.below Hb5.out (by omega)
                have HR5 := hid hR5
                have t0 := hR5.cell 0
                have t1 := hR5.cell 1
                have t2 := hR5.frozen 0
                have t3 := hR5.frozen 1
                clear hin hR5
                go_wp2
                have hE := two_set HR5.out (.slice none 0 0) (.slice none 0 0)
                have z0 := hE.cell 0
                have z1 := hE.cell 1
                refine bodyPost_ret (v := .tuple #[.agg #[.slice none 0 0, .slice none 0 0], .bool false]) (by simp [results, Try.results50, go_sem, z0, z1]) rfl ⟨none, 0, 0, .slice none 0 0, ret_vbT HNN.out.symm, (fun h => absurd h (by rw [HNN.out]; decide)), by rw [ansLT_no HNN.out]; exact OwnI.nil _ _ _, ?_⟩
                exact ((below_to HB3.out Hb5.out).setCell (p := ⟨w.heap.size, 0, none⟩) (Nat.le_refl _) _).setCell (p := ⟨w.heap.size, 1, none⟩) (Nat.le_refl _) _
              · have hyr : 0 ≤ y ∧ y < n := by simpa using hin
                clear hin
                obtain ⟨y, rfl⟩ := Int.eq_ofNat_of_zero_le hyr.1
                have HYr := hid hyr
                have hyn : y < n := by omega
                have hcy : w5.cell? ⟨g, y, none⟩ = some (.int .i64 ((plc f n (q + k)).getD y 0)) := by
                  rw [HB5.out.cell, Vals_get (by rw [plc_length]; exact hyn)]
                obtain ⟨z, hz⟩ : ∃ z, (plc f n (q + k)).getD y 0 = z := ⟨_, rfl⟩
                rw [hz] at hcy
                have hft := HB5.out.frozen y
                have t5 := (A53.out.below Hb5.out).1
                have hqm := HQM.out
                clear hz
                go_wp2
                go_roundw
                case rel => exact ⟨k + 1, by omega, by go_num, (by rw [← Nat.add_assoc, plc, HY.out, ← Vals_set, Int.toNat_natCast]; exact HB5.out.set_ y _), Hb5.out.setCell (p := ⟨g, y, none⟩) hg _, hid (fun e he => by
                  by_cases h : e = q + k
                  · subst h; rw [HY.out]; exact HYr.out
                  · exact HIn2.out e (by omega))⟩
                case measure => simp [intOf]; omega
            · have Hkb := hid (show k = b by omega)
              have hkb' : ¬ (k : Int) < (b : Int) := by omega
              clear hkb
              go_wp2
              go_roundw
              case rel => exact ⟨r + 1, by omega, by go_num, (by have h := HB2.out; rw [Hkb.out] at h; rw [Nat.mul_succ, HQ.out]; exact h), Hb2.out, hid (by have h := HIn2.out; rw [Hkb.out] at h; rw [Nat.mul_succ, HQ.out]; exact h)⟩
              case measure => simp [intOf]; omega
        · have Hr := hid (show r = ls.length by omega)
          have hr' : ¬ (r : Int) < (ls.length : Int) := by omega
          have HBn : Hid (Blk wr g 3 (Vals (linT ls))) := hid (by have h := HBk.out; rw [Hr.out, Nat.mul_comm, HN.out] at h; rw [HLT.out]; exact h)
          have HO := hid (HOrd.out (by have h := HIn.out; rw [Hr.out, Nat.mul_comm, HN.out] at h; exact h))
          rw [← HLT.out] at HO
          have hll : (linT ls).length = n := by rw [HLT.out, plc_length]
          have HLi : Hid (Ints wr (.slice (some ⟨g, 0, none⟩) n n) (linT ls)) := hid (by have := HBn.out.ints (c := n); rw [hll] at this; exact this)
          have t6 := (A63.out.below Hb.out).1
          have HLl := hid hll
          clear hlt hll HBk
          go_wp2_with fail
          clear t6
          refine (hasOrder_any _ _ (rectL (ls.length : Int) (b : Int)) (linT ls) _ (HP3.out.below Hb.out) HLi.out HGood.out (by rw [HLl.out]; omega)).mono ?_
          rintro e w5 ⟨rfl, hb5⟩
          have Hb5 := hid (below_to Hb.out hb5)
          have HB5 := hid (HBn.out.below hb5 HBn.out.lt)
          rw [← HO.out]
          clear hb5
          have hR5 := HRes3.out.below Hb5.out (by omega)
          have HR5 := hid hR5
          have t0 := hR5.cell 0
          have t1 := hR5.cell 1
          have t2 := hR5.frozen 0
          have t3 := hR5.frozen 1
          clear hR5
          cases hq : tabB ls
          · have HNN := hid hq
            clear hq
            go_wp2
            have hE := two_set HR5.out (.slice none 0 0) (.slice none 0 0)
            have z0 := hE.cell 0
            have z1 := hE.cell 1
            refine bodyPost_ret (v := .tuple #[.agg #[.slice none 0 0, .slice none 0 0], .bool false]) (by simp [results, Try.results50, go_sem, z0, z1]) rfl ⟨none, 0, 0, .slice none 0 0, ret_vbT HNN.out.symm, (fun h => absurd h (by rw [HNN.out]; decide)), by rw [ansLT_no HNN.out]; exact OwnI.nil _ _ _, ?_⟩
            exact ((below_to HB3.out Hb5.out).setCell (p := ⟨w.heap.size, 0, none⟩) (Nat.le_refl _) _).setCell (p := ⟨w.heap.size, 1, none⟩) (Nat.le_refl _) _
          · have HYY := hid hq
            clear hq
            go_wp2
            have hE := two_set HR5.out (.slice (some ⟨ab, ao, none⟩) ls.length c) (.slice (some ⟨g, 0, none⟩) n n)
            have z0 := hE.cell 0
            have z1 := hE.cell 1
            refine bodyPost_ret (v := .tuple #[.agg #[.slice (some ⟨ab, ao, none⟩) ls.length c, .slice (some ⟨g, 0, none⟩) n n], .bool true]) (by simp [results, Try.results50, go_sem, z0, z1]) rfl ⟨some ⟨ab, ao, none⟩, ls.length, c, .slice (some ⟨g, 0, none⟩) n n, ret_vbT HYY.out.symm, (fun _ => rfl), ?_, ?_⟩
            · rw [ansLT_yes HYY.out]
              have h1 := ((HB5.out.far (p := ⟨w.heap.size, 0, none⟩) (by show g ≠ w.heap.size; omega) (.slice (some ⟨ab, ao, none⟩) ls.length c)).far (p := ⟨w.heap.size, 1, none⟩) (by show g ≠ w.heap.size; omega) (.slice (some ⟨g, 0, none⟩) n n)).own (B := w.heap.size) (by omega) (by rw [HLl.out]; omega)
              rw [HLl.out] at h1
              exact h1
            · exact ((below_to HB3.out Hb5.out).setCell (p := ⟨w.heap.size, 0, none⟩) (Nat.le_refl _) _).setCell (p := ⟨w.heap.size, 1, none⟩) (Nat.le_refl _) _
end Go.Proofs.Ytbbkoagjplapkaa
