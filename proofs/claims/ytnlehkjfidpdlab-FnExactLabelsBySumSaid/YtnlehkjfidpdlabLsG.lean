/- Chains led on by the program, counted in lists. -/
import Derived.Test.YtnlehkjfidpdlabChG
import Derived.Test.YtnlehkjfidpdlabChE
import Derived.Test.YtnlehkjfidpdlabLsT
import Derived.Test.YtnlehkjfidpdlabLbA
namespace Go.Proofs.Ytnlehkjfidpdlab
open Go.RowKit Go.WideShapes Go.ChangeShapes
set_option linter.unusedVariables false

/-- 'p = append(p, u)': p is a slice of the call's own of known values -/
theorem wpList_append_val {P : Program} {w W : World} {ops : Array Oper} {rest : List Oper} {o : Oper} {a : Act} {Q : Exit → Act → World → Prop} (hgd : o.guard = none) (s x : Operand) (t e : TypeId)
    (ho : o.op = .call { callee := .builtin .append, args := #[s, x], argTypes := #[t, t] }) (ht : P.underlying t = some (.slice e)) (hinfo : (P.info? e).map (fun i => (i.zero, i.size, i.bytes)) = some (some (.slice none 0 0), 1, 24))
    (B : Nat) (v : Value) (us : List Value) (y : Value) (hy1 : y.oneCell' = true) (hs : a.eval s = v) (hown : w.ownsRow B e 1 v us.length us) (hW : W = w.alloc (.cells #[y] e)) (hx : a.eval x = .slice (some ⟨w.heap.size, 0, none⟩) 1 1) (hlen : us.length < 1048576) (hB : B ≤ w.heap.size)
    (h : ∀ v' w', w'.ownsRow B e 1 v' (us.length + 1) (us ++ [y]) → Below B w w' → (∀ ti B' z zs, ti ≠ e → OwnI ti w B' z zs → OwnI ti w' B' z zs) → wpList P ops Q rest (a.put o.dst v') w') : wpList P ops Q (o :: rest) a W := by
  subst hW
  obtain ⟨i0, hi, hz0, hz1, hz2⟩ := info_parts hinfo
  refine wpList_append_own _ hgd s x t ho B e i0 (.slice none 0 0) 1 24 ht hi hz0 hz1 hz2 rfl (by decide) v us.length us hs (World.ownsRow.alloc hown _) ⟨w.heap.size, 0, none⟩ 1 1 [y] hx rfl ?_ ?_ ?_ ?_ ?_ ?_
  · intro j u hj
    match j, hj with
    | 0, hj =>
      simp only [List.getElem?_cons_zero, Option.some.injEq] at hj
      subst hj
      exact (Blk.new w e #[y]).cell 0
    | j + 1, hj => simp at hj
  · intro u hu
    simp only [List.mem_singleton] at hu
    subst hu; exact hy1
  · unfold maxLen; omega
  · omega
  · simp; omega
  · intro v' w' h2 h3 _
    refine h v' w' h2 ?_ ?_
    · have h4 : Below B w (w.alloc (.cells #[y] e)) := (Below.refl _ _).alloc hB _
      refine h4.grown h3 (by simp; omega) fun k hk => ?_
      exact (World.ownsRow.lt hown k hk).1
    · intro ti B' z zs hne hz
      refine (hz.alloc _).grown h3 ?_
      rcases hown.2 with ⟨e1, _⟩ | ⟨b, cap, cur, e1, hBq, hh, _⟩
      · subst e1
        rcases hq : z.ownBlock with _ | k
        · exact .inl rfl
        · right; simp [Value.ownBlock]
      · subst e1
        exact .inr (fun e2 => own_ne3 hne hz hh e2)
theorem OwnI.oneCell {e : TypeId} {w : World} {B : Nat} {v : Value} {xs : List Int} (h : OwnI e w B v xs) : v.oneCell' = true := by
  obtain ⟨A, n, c, rfl⟩ := h.shape3; rfl
/-- a slice of the call's own of lists: what it holds, read -/
theorem vals_ss {ti ts : TypeId} {w : World} {B B2 : Nat} {v : Value} {us : List Value} {ls : List (List Int)} (h : w.ownsRow B ts 1 v us.length us) (hl : us.length = ls.length) (hu : ∀ j u, us[j]? = some u → OwnI ti w B2 u (ls.getD j [])) : IntsSS w v ls := by
  have hlt := World.ownsRow.lt h
  rcases h.2 with ⟨rfl, hn⟩ | ⟨b, cap, cur, rfl, hBb, hh, _⟩
  · refine ⟨none, 0, by rw [← hl, hn], fun j hj => by omega⟩
  · refine ⟨some ⟨b, 0, none⟩, cap, by rw [← hl], fun j hj => ?_⟩
    have hj' : j < us.length := by omega
    have hc := h.cellAt j (by omega)
    rw [List.getElem?_eq_getElem hj'] at hc
    exact ⟨b, 0, us[j], rfl, (hlt b rfl).2, by rw [Nat.zero_add]; exact hc, (hu j _ (List.getElem?_eq_getElem hj')).ints⟩
/-- the counts are lists of ints that lie from B on -/
def CtsV (ti : TypeId) (w : World) (B n : Nat) (cs : Array Value) (F : Nat → List Int) : Prop := cs.size = n ∧ ∀ j u, j < n → cs[j]? = some u → OwnI ti w B u (F j)
theorem cut0V {e : TypeId} {w : World} {B c : Nat} {A : Option Addr} {n : Nat} {us : List Value} (h : w.ownsRow B e 1 (.slice A n c) us.length us) : w.ownsRow B e 1 (.slice A 0 c) ([] : List Value).length [] := by
  refine ⟨by simp, ?_⟩
  rcases h.2 with ⟨h1, h2⟩ | ⟨g, cap, cur, h1, hB, hh, h3, h4, h5, h6⟩
  · simp only [Value.slice.injEq] at h1
    exact .inl ⟨by rw [h1.1, h1.2.2], rfl⟩
  · simp only [Value.slice.injEq] at h1
    refine .inr ⟨g, cap, cur, by rw [h1.1, h1.2.2]; rfl, hB, hh, Nat.zero_le _, h4, h5, by simp⟩
theorem shapeV {e : TypeId} {w : World} {B : Nat} {v : Value} {us : List Value} (h : w.ownsRow B e 1 v us.length us) : ∃ A c, v = .slice A us.length c := by
  rcases h.2 with ⟨rfl, hn⟩ | ⟨g, cap, cur, rfl, _⟩
  · exact ⟨none, 0, by rw [hn]⟩
  · exact ⟨_, cap, rfl⟩
theorem ownsRow_below {e : TypeId} {w w' : World} {B n : Nat} {v : Value} {us : List Value} (h : w.ownsRow B e 1 v n us) (hb : Below w.heap.size w w') : w'.ownsRow B e 1 v n us := by
  by_cases hv : v.ownBlock = none
  · exact World.ownsRow.kept h (grown_of_below hb none) (.inl hv)
  · exact World.ownsRow.kept h (grown_of_below hb none) (.inr hv)
theorem ownsRow_apart {e : TypeId} {w : World} {B n k : Nat} {v : Value} {us : List Value} (h : w.ownsRow B e 1 v n us) (hk : k < B) : v.ownBlock = none ∨ v.ownBlock ≠ some k := by
  refine .inr fun e => ?_
  have := World.ownsRow.lt h k e
  omega
set_option maxRecDepth 100000 in
set_option maxHeartbeats 3200000 in
theorem growL_any (P cb n B0 z : Nat) (vi vb : Value) (ids : List Int) (st : Nat → Nat → Bool) (cs : Array Value) (F : Nat → List Int) (w : World)
    (h : ChV 67 25 w P cb n vi vb (.func (.func 52) #[] #[]) ids (rowsSt st n) cs) (hc : CtsV 3 w B0 n cs F) (hn1 : 1 ≤ n) (hn : n ≤ 1024) (hz : z ≤ 1024)
    (hL : ∀ i, i < n → (F i).length ≤ z) (hBd : ∀ i, i < n → ∀ k, k ≤ (plN st i).length → ∀ p, 0 ≤ (totL (((plN st i).map F).take k)).getD p 0 ∧ (totL (((plN st i).map F).take k)).getD p 0 ≤ 1000000000000000) :
    Calls Try.prog 53 #[.pointer (some ⟨P, 0, none⟩)] w fun (r : Ending) w' => ∃ cb' cs', r = Ending.returned (.tuple #[]) ∧ ChV 67 25 w' P cb' n vi vb (.func (.func 52) #[] #[]) ids (rowsSt st n) cs' ∧ CtsV 3 w' w.heap.size n cs' (fun i => totL ((plN st i).map F)) ∧ w.heap.size ≤ cb' ∧ Below P w w' ∧ Kp P w w' := by
  obtain ⟨hne, hP, hCb, hvw⟩ := h
  obtain ⟨hI, hB⟩ := hvw w (Kq.refl _ _ _)
  obtain ⟨hcn, hcv⟩ := hc
  have HVw := hid hvw
  obtain ⟨bA, bc, rfl, hrows⟩ := hB
  rw [rowsSt_len] at hrows hP HVw ⊢
  have HRows := hid hrows
  have HLen := hid hL
  have HBds := hid hBd
  have HCn := hid hcn
  have HCv := hid (fun j (hj : j < n) => show ∃ u, cs[j]? = some u ∧ OwnI 3 w B0 u (F j) from ⟨cs[j]'(by omega), Array.getElem?_eq_getElem (by omega), hcv j _ hj (Array.getElem?_eq_getElem (by omega))⟩)
  have HP := hid hP
  have HCb := hid hCb
  have hmk := run_make_row' (P := Try.prog) 51 25 (.slice none 0 0) 24 Try.underlying51 Try.info25 rfl .i64 .i64 n (by omega) (by omega)
  have hp1 : w.cell? ⟨P, 1, none⟩ = some (.slice bA n bc) := by rw [hP.cell]; rfl
  have hp2 : w.cell? ⟨P, 2, none⟩ = some (.slice (some ⟨cb, 0, none⟩) n n) := by rw [hP.cell]; rfl
  have hPl := hP.lt
  have hcl := hCb.lt
  clear hrows hcv hcn hI hP hCb hvw hL hBd
  go_enter Try.func53, Try.ntmps53
  go_wp2
  clear hmk hp1 hp2
  obtain ⟨g, hg⟩ : ∃ g, w.heap.size = g := ⟨_, rfl⟩
  have HGe := hid hg
  have HK0 : Hid (Blk (w.alloc (.cells (madeCells #[.slice none 0 0] n) 25)) g 25 (madeCells #[.slice none 0 0] n) ∧ (madeCells #[.slice none 0 0] n).size = n) := hid ⟨Blk.newAt _ _ _ _ hg.symm, by rw [← Array.length_toList, toList_madeCells_one, List.length_replicate]⟩
  have HB0 : Hid (Below g w (w.alloc (.cells (madeCells #[.slice none 0 0] n) 25)) ∧ g + 1 ≤ (w.alloc (.cells (madeCells #[.slice none 0 0] n) 25)).heap.size) := hid ⟨by rw [← hg]; exact below_alloc (Below.refl _ w) _, by simp [hg]⟩
  rw [hg] at hPl hcl ⊢
  clear hg
  go_loopw [3, 19] (fun p i wr => ∃ (t : Nat) (us : List Value) (ks : Array Value), t ≤ n ∧ i = .int .i64 t ∧ wr.ownsRow (g + 1) 25 1 p us.length us ∧ Blk wr g 25 ks ∧ ks.size = n ∧ (∀ r u, r < t → ks[r]? = some u → OwnI 3 wr (g + 1) u (totL ((plN st r).map F))) ∧ Below g w wr ∧ g + 1 ≤ wr.heap.size) (fun _ i _ => n - (intOf i).toNat)
  case atStart => exact ⟨0, [], _, Nat.zero_le _, rfl, World.ownsRow_nil _ _ _ _, HK0.out.1, HK0.out.2, fun r u hr => absurd hr (Nat.not_lt_zero _), HB0.out.1, HB0.out.2⟩
  case round =>
    obtain ⟨i, us, ks, hi, rfl, hp, hk, hks, hro, hb, hz1⟩ := hrel
    obtain ⟨pA, pc, rfl⟩ := shapeV hp
    have HPt := hid (cut0V hp)
    have HK := hid hk
    have HKs := hid hks
    have HRo := hid hro
    have HB := hid hb
    clear hp hk hb hks hro
    by_cases hin : i < n
    · have hBw : Below w.heap.size w wr := by rw [HGe.out]; exact HB.out
      obtain ⟨rb, ro, ru, rfl, hrl, hrc, hri⟩ := HRows.out i hin
      have hrc2 := (hBw.cell (p := ⟨rb, ro + i, none⟩) hrl).trans hrc
      rw [rowsSt_at hin] at hri
      have hPlen := plN_length st i
      have HPl := hid (fun q (hq : q < (plN st i).length) => plN_lt hq)
      have HBd := hid (HBds.out i hin)
      obtain ⟨I, hIe⟩ : ∃ I, plN st i = I := ⟨_, rfl⟩
      have HIe := hid hIe
      rw [hIe] at hri HPl hPlen HBd
      obtain ⟨ua, uc, rfl, hua⟩ := hri
      rw [List.length_map] at hrc2
      have HUa := hid hua
      rw [List.length_map] at HUa
      clear hrc hIe hua
      have HPw := hid (HP.out.below hBw HP.out.lt)
      have HCbw := hid (HCb.out.below hBw HCb.out.lt)
      have HCvw := hid (fun j (hj : j < n) => show ∃ u, cs[j]? = some u ∧ OwnI 3 wr B0 u (F j) from (HCv.out j hj).elim fun u hu => ⟨u, hu.1, hu.2.below hBw⟩)
      have hp3 : wr.cell? ⟨P, 3, none⟩ = some (.func (.func 52) #[] #[]) := by rw [HPw.out.cell]; rfl
      obtain ⟨W1, hW1⟩ : ∃ x, x = wr := ⟨wr, rfl⟩
      rw [← hW1] at HPt HK HB HPw HCbw HCvw HRo hrc2 hp3 hz1 ⊢
      clear hW1 hBw
      go_wp2
      clear hrc2 hp3
      go_loopw [3, 28] (fun p j wr => ∃ (t : Nat) (us : List Value), t ≤ I.length ∧ j = .int .i64 t ∧ us.length = t ∧ wr.ownsRow (g + 1) 25 1 p us.length us ∧ (∀ q u, us[q]? = some u → OwnI 3 wr B0 u (F (I.getD q 0))) ∧ (∀ B' y zs, OwnI 3 W1 B' y zs → OwnI 3 wr B' y zs) ∧ Below (g + 1) W1 wr) (fun _ i _ => I.length - (intOf i).toNat)
      case atStart => exact ⟨0, [], Nat.zero_le _, rfl, rfl, HPt.out, fun q u hq => by simp at hq, fun _ _ _ h => h, Below.refl _ _⟩
      case round =>
        obtain ⟨t, us2, ht, rfl, hul2, hp, hus, hkeep, hb⟩ := hrel
        obtain ⟨qA, qc, rfl⟩ := shapeV hp
        have HPq := hid hp
        have HUs := hid hus
        have HKeep := hid hkeep
        have HBq := hid hb
        have HUl := hid hul2
        have hzq := Nat.le_trans hz1 hb.size
        rw [hul2] at HPq ⊢
        clear hp hb hus hkeep hul2
        by_cases htl : t < I.length
        · have hne2 : (I.map fun x : Nat => (x : Int)) ≠ [] := by intro h; have := congrArg List.length h; rw [List.length_map, List.length_nil] at this; omega
          obtain ⟨ub, uo, rfl, hul, huc⟩ := HUa.out hne2
          have hbw := HB.out.trans (HBq.out.mono (Nat.le_succ g))
          have hcu := (hbw.cell (p := ⟨ub, uo + t, none⟩) (by rw [HGe.out] at hul; exact hul)).trans (huc t htl)
          have e : (I.map fun x : Nat => (x : Int)).getD t 0 = ((I.getD t 0 : Nat) : Int) := by simp [List.getD, htl]
          rw [e] at hcu
          have hjl := HPl.out t htl
          obtain ⟨j, hj⟩ : ∃ j, I.getD t 0 = j := ⟨_, rfl⟩
          have HJe := hid hj
          rw [hj] at hcu hjl
          have hjn : j < n := by omega
          obtain ⟨y, hy1, hy2⟩ := HCvw.out j hjn
          have HY := hid (HKeep.out _ _ _ hy2)
          have hcj : wr.cell? ⟨cb, j, none⟩ = some y := by
            rw [(HCbw.out.below HBq.out (by omega)).cell]; exact hy1
          have hp2 : wr.cell? ⟨P, 2, none⟩ = some (.slice (some ⟨cb, 0, none⟩) n n) := by rw [(HPw.out.below HBq.out (by omega)).cell]; rfl
          have HLn : Hid (us2.length < 1048576) := hid (by rw [HUl.out]; omega)
          have HPq2 : Hid (wr.ownsRow (g + 1) 25 1 (.slice qA t qc) us2.length us2) := hid (by rw [HUl.out]; exact HPq.out)
          obtain ⟨yA, yn, yc, hyy⟩ := hy2.shape3
          subst hyy
          clear huc hbw e hj hne2 hy1 hy2
          go_wp2_with (at_builtin; refine wpList_append_val rfl _ _ 51 25 rfl Try.underlying51 Try.info25 (g + 1) _ us2 (.slice yA yn yc) rfl rfl HPq2.out rfl rfl HLn.out hzq ?_; intro q2 w3 ho3 hb3 hk3; have HO3 := hid ho3; have HB3 := hid hb3; have HK3 := hid hk3; clear ho3 hb3 hk3)
          go_roundw
          case rel => exact ⟨t + 1, us2 ++ [.slice yA yn yc], by omega, by go_num, by rw [List.length_append, HUl.out]; rfl, by rw [List.length_append]; exact HO3.out, fun q u hq => by
            rw [List.getElem?_append] at hq
            by_cases e : q < us2.length
            · rw [if_pos e] at hq
              exact HK3.out _ _ _ _ (by decide) (HUs.out q u hq)
            · rw [if_neg e] at hq
              have e2 : q = us2.length := by
                have := (List.getElem?_eq_some_iff.1 hq).1
                simp at this; omega
              subst e2
              rw [Nat.sub_self] at hq
              simp only [List.getElem?_cons_zero, Option.some.injEq] at hq
              subst hq
              rw [HUl.out, HJe.out]
              exact HK3.out _ _ _ _ (by decide) HY.out, fun B' y' zs' h => HK3.out _ _ _ _ (by decide) (HKeep.out _ _ _ h), HBq.out.trans HB3.out⟩
          case measure => simp [intOf]; omega
        · have htI : t = I.length := by omega
          have HPz : Hid (wr.ownsRow (g + 1) 25 1 (.slice qA t qc) us2.length us2) := hid (by rw [HUl.out]; exact HPq.out)
          have hp3 : wr.cell? ⟨P, 3, none⟩ = some (.func (.func 52) #[] #[]) := by rw [(HPw.out.below HBq.out (by omega)).cell]; rfl
          have HSS : Hid (IntsSS wr (.slice qA t qc) (I.map F)) := hid (vals_ss HPz.out (by rw [HUl.out, List.length_map]; exact htI) (fun q u hq => by
            have hql : q < us2.length := (List.getElem?_eq_some_iff.1 hq).1
            have e : (I.map F).getD q [] = F (I.getD q 0) := by
              have : q < I.length := by rw [← htI, ← HUl.out]; exact hql
              simp [List.getD, this]
            rw [e]; exact HUs.out q u hq))
          have HT := hid (totals_any (.slice qA t qc) (I.map F) z wr HSS.out (by rw [List.length_map]; omega) hz (fun r hr => by
            rw [List.length_map] at hr
            have e : (I.map F).getD r [] = F (I.getD r 0) := by simp [List.getD, hr]
            rw [e]; exact HLen.out _ (by have := HPl.out r hr; omega)) (fun k hk p => HBd.out k (by rw [List.length_map] at hk; exact hk) p))
          have HK2 := hid (HK.out.below HBq.out (Nat.lt_succ_self g))
          have hfz0 := HK2.out.frozen i
          obtain ⟨k0, hk0⟩ : ∃ u, ks[i]? = some u := ⟨_, Array.getElem?_eq_getElem (by rw [HKs.out]; exact hin)⟩
          have HRo2 := hid (fun r u (hr : r < i) (hu : ks[r]? = some u) => HKeep.out _ _ _ (HRo.out r u hr hu))
          have Hk0 := hid hk0
          clear hk0 hfz0 htI
          go_wp2_with fail
          with_reducible refine HT.out.mono ?_
          rintro e w5 ⟨q5x, rfl, ho5, hb5⟩
          obtain ⟨sA, sn, sc, rfl⟩ := ho5.shape3
          have HO5 := hid (ho5.mono hzq)
          have HB5 := hid hb5
          have HK5 := hid (HK2.out.below hb5 HK2.out.lt)
          have hcg : w5.cell? ⟨g, i, none⟩ = some k0 := by rw [HK5.out.cell]; exact Hk0.out
          have hfz := HK5.out.frozen i
          have HP5 := hid (ownsRow_below HPz.out hb5)
          have HRo5 := hid (fun r u (hr : r < i) (hu : ks[r]? = some u) => (HRo2.out r u hr hu).below hb5)
          have hz5 := Nat.le_trans hzq hb5.size
          clear ho5 hb5 hp3
          go_wp2
          go_roundw
          case rel => exact ⟨i + 1, us2, ks.setIfInBounds i (.slice sA sn sc), by omega, by go_num, World.ownsRow.kept HP5.out (grown_setCell (World.grownBy.refl _ _) i (.slice sA sn sc)) (ownsRow_apart HP5.out (Nat.lt_succ_self g)), HK5.out.set_ i (.slice sA sn sc), by rw [Array.size_setIfInBounds]; exact HKs.out, fun r u hr hu => by
            rw [Array.getElem?_setIfInBounds] at hu
            by_cases e : i = r
            · subst e
              rw [if_pos rfl, if_pos (by rw [HKs.out]; exact hin)] at hu
              injection hu with hu
              subst hu
              rw [HIe.out]
              exact HO5.out.grown (grown_setCell (World.grownBy.refl _ _) i (.slice sA sn sc)) (HO5.out.apart (.inl (Nat.lt_succ_self g)))
            · rw [if_neg e] at hu
              have h := HRo5.out r u (by omega) hu
              exact h.grown (grown_setCell (World.grownBy.refl _ _) i (.slice sA sn sc)) (h.apart (.inl (Nat.lt_succ_self g))), (HB.out.trans ((HBq.out.mono (Nat.le_succ g)).trans (HB5.out.mono (by omega)))).setCell (p := ⟨g, i, none⟩) (Nat.le_refl _) _, by simpa [World.setCell] using hz5⟩
          case measure => simp [intOf]; omega
    · have hin' : i = n := by omega
      subst hin'
      have hPb : Below w.heap.size w wr := by rw [HGe.out]; exact HB.out
      have HPw := hid (HP.out.below hPb HP.out.lt)
      have hp2 : wr.cell? ⟨P, 2, none⟩ = some (.slice (some ⟨cb, 0, none⟩) i i) := by rw [HPw.out.cell]; rfl
      have hf2 := HPw.out.frozen 2
      have HBf := hid (HB.out.mono (Nat.le_of_lt hPl))
      have HKf2 := hid (Kp.of_below (P := P) hPb)
      clear hPb
      go_wp2
      go_end0
      refine ⟨g, ks, rfl, ⟨by omega, HPw.out.set_ 2 _, HK.out.far (p := ⟨P, 2, none⟩) (by simp only; omega) _, fun W hW => HVw.out W ?_⟩, ⟨HKs.out, fun j u hj hu => ?_⟩, Nat.le_of_eq HGe.out, HBf.out.setCell (p := ⟨P, 2, none⟩) (Nat.le_refl _) _, HKf2.out.set_ 2 _⟩
      · have hk := HKf2.out.set_ 2 (.slice (some ⟨g, 0, none⟩) i i)
        exact ⟨Nat.le_trans hk.size hW.size, fun k h1 h2 h3 => (hW.block k (Nat.lt_of_lt_of_le h1 hk.size) h2 (by rw [HGe.out] at h1; omega)).trans (hk.block k h1 h2)⟩
      · have h := HRo.out j u hj hu
        exact (h.grown (grown_setCell (World.grownBy.refl _ _) 2 _) (h.apart (.inl (by omega)))).mono (by rw [HGe.out]; exact Nat.le_succ g)
end Go.Proofs.Ytnlehkjfidpdlab
