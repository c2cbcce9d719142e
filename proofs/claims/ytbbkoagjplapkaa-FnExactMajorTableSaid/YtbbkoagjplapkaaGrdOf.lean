/- gridOf: a grid out of each of the program's closures. -/
import Derived.Test.YtbbkoagjplapkaaGrd
import Derived.Deep.RegionWith
namespace Go.Proofs.Ytbbkoagjplapkaa
open Go.RowKit Go.WideShapes Go.ChangeShapes
set_option linter.unusedVariables false

set_option maxRecDepth 100000 in
set_option maxHeartbeats 3200000 in
theorem gridOfTurnTableau_any (a b : Nat) (p1 : Nat) (F : Nat → Nat → Int) (w : World) (hU : FunG 71 #[.pointer (some ⟨p1, 0, none⟩)] a b F w) (ha : 1 ≤ a) (ha2 : a ≤ 10) (hb : 1 ≤ b) (hb2 : b ≤ 10) :
    Calls Try.prog 57 #[.int .i64 (a : Int), .int .i64 (b : Int), .func (.func 71) #[] #[.pointer (some ⟨p1, 0, none⟩)]] w fun (r : Ending) w' => ∃ u, r = Ending.returned u ∧ OwnSS 3 27 w' w.heap.size w'.heap.size u (gridL a b F) ∧ Below w.heap.size w w' := by
  have HU := hid hU
  have hmk := run_make_row' (P := Try.prog) 45 27 (.slice none 0 0) 24 Try.underlying45 Try.info27 rfl .i64 .i64 a (by omega) (by omega)
  have hmk2 := run_make_row' (P := Try.prog) 27 3 (.int .i64 0) 8 Try.underlying27 Try.info3 rfl .i64 .i64 b (by omega) (by omega)
  have HMk2 := hid hmk2
  have HM := hid (OwnSS.made (P := Try.prog) 3 27 w (rowsF a (fun _ => [])) (by rw [rowsF_length]; omega))
  rw [rowsF_length] at HM
  clear hU hmk2
  go_enter Try.func57, Try.ntmps57
  go_wp2
  clear hmk
  go_loopw [14] (fun i wr => ∃ r : Nat, r ≤ a ∧ i = .int .i64 r ∧ OwnSS 3 27 wr w.heap.size wr.heap.size (.slice (some ⟨w.heap.size, 0, none⟩) a a) (rowsF a (fun i => if i < r then rowL b (F i) else [])) ∧ Below w.heap.size w wr ∧ w.heap.size < wr.heap.size) (fun i _ => a - (intOf i).toNat)
  case atStart => exact ⟨0, Nat.zero_le _, rfl, (by
    have h := HM.out
    have e : fillSS (rowsF a (fun _ => [])) 0 = rowsF a (fun i => if i < 0 then rowL b (F i) else []) := by
      unfold fillSS
      rw [rowsF_length]
      exact rowsF_congr fun i _ => by rw [if_neg (Nat.not_lt_zero i), if_neg (Nat.not_lt_zero i)]
    rw [e] at h
    exact h.mono (by simp)), below_alloc (Below.refl _ _) _, by simp⟩
  case round =>
    obtain ⟨r, hr, rfl, ho, hb0, hz⟩ := hrel
    have HO := hid ho
    have Hb := hid hb0
    clear ho hb0
    by_cases hlt : r < a
    · have hmk2 := HMk2.out
      obtain ⟨ob, hob, hobE, hfz, ⟨x, hx⟩, hput⟩ := (HO.out.below (below_alloc (Below.refl _ wr) (.cells (madeCells #[.int .i64 0] b) 3))).put (by decide) (show wr.heap.size ≤ (wr.alloc (.cells (madeCells #[.int .i64 0] b) 3)).heap.size by simp) (j := r) (by rw [rowsF_length]; exact hlt) (u := .slice (some ⟨wr.heap.size, 0, none⟩) b b) (l := List.replicate b 0) (by
        have h := (Blk.new wr 3 (Vals (List.replicate b 0))).own (B := w.heap.size) (by omega) (by simp; omega)
        rw [List.length_replicate] at h
        rw [Vals_made]; exact h) (fun k hk => by simp only [Value.ownBlock, Option.some.injEq] at hk; subst hk; simp)
      injection hob with hob
      injection hob with hob _ _
      subst hob
      rw [rowsF_set _ hlt] at hput
      have e1 : rowsF a (fun i => if i = r then List.replicate b 0 else if i < r then rowL b (F i) else []) = rowsF a (partR b F r 0) := rowsF_congr fun i _ => by
        unfold partR
        by_cases h1 : i = r
        · subst h1
          rw [if_pos rfl, if_neg (Nat.lt_irrefl _), if_pos rfl, ← rowL_zero]
          exact rowL_congr fun j _ => by rw [if_neg (Nat.not_lt_zero j)]
        · rw [if_neg h1]
          by_cases h2 : i < r
          · rw [if_pos h2, if_pos h2]
          · rw [if_neg h2, if_neg h2, if_neg h1]
      rw [e1] at hput
      have HP := hid hput
      obtain ⟨A0, c0, hsh, hrows⟩ := HO.out.rows
      obtain ⟨ob2, u0, hob2, -, hx0, -⟩ := hrows r (by rw [rowsF_length]; exact hlt)
      rw [hob2] at hsh
      injection hsh with hsh hsh2 hsh3
      injection hsh with hsh
      injection hsh with hsh hsh4 hsh5
      subst hsh
      clear hrows hob2 hsh2 hsh3
      have hWW : ((wr.alloc (.cells (madeCells #[.int .i64 0] b) 3)).setCell ⟨w.heap.size, r, none⟩ (.slice (some ⟨wr.heap.size, 0, none⟩) b b)) = ((wr.setCell ⟨w.heap.size, r, none⟩ (.slice (some ⟨wr.heap.size, 0, none⟩) b b)).alloc (.cells (madeCells #[.int .i64 0] b) 3)) := by
        exact World.setCell_alloc_past _ _ _ _ hz
      rw [hWW] at HP
      obtain ⟨W1, hW1⟩ : ∃ W1 : World, W1 = ((wr.setCell ⟨w.heap.size, r, none⟩ (.slice (some ⟨wr.heap.size, 0, none⟩) b b)).alloc (.cells (madeCells #[.int .i64 0] b) 3)) := ⟨_, rfl⟩
      have HB1 : Hid (Below w.heap.size w W1) := hid (by rw [hW1]; exact (Hb.out.setCell (p := ⟨w.heap.size, r, none⟩) (Nat.le_refl _) _).alloc (by simp [World.setCell]; omega) _)
      have hz1 : (wr.alloc (.cells (madeCells #[.int .i64 0] b) 3)).heap.size ≤ W1.heap.size := by rw [hW1]; simp [World.setCell]
      have hz2 : w.heap.size < W1.heap.size := by have : (wr.alloc (.cells (madeCells #[.int .i64 0] b) 3)).heap.size = wr.heap.size + 1 := by simp
                                                  omega
      rw [← hW1] at HP
      replace HP := hid (HP.out.mono hz1)
      clear hput e1 hWW hz1
      go_wp2
      rw [← hW1]
      clear hW1 hx hx0 hfz hmk2
      go_loopw [27] (fun i wi => ∃ c : Nat, c ≤ b ∧ i = .int .i64 c ∧ OwnSS 3 27 wi w.heap.size wi.heap.size (.slice (some ⟨w.heap.size, 0, none⟩) a a) (rowsF a (partR b F r c)) ∧ Below w.heap.size w wi ∧ w.heap.size < wi.heap.size) (fun i _ => b - (intOf i).toNat)
      case atStart => exact ⟨0, Nat.zero_le _, rfl, HP.out, HB1.out, hz2⟩
      case round =>
        obtain ⟨c, hc, rfl, ho, hb0, hz3⟩ := hrel
        obtain ⟨wi, rfl⟩ : ∃ x, x = wr := ⟨wr, rfl⟩
        have HO3 := hid ho
        have Hb3 := hid hb0
        have hlen : ((rowsF a (partR b F r c)).getD r []).length = b := by rw [rowsF_getD hlt]; unfold partR; rw [if_neg (Nat.lt_irrefl _), if_pos rfl, rowL_length]
        have HLen := hid hlen
        obtain ⟨o', cv', g, cg, hsh, hcr, -, -, hBg, hgl, -, hcells, hfz, -⟩ := ho.cells (by decide) (r := r) (by rw [rowsF_length]; exact hlt) (by omega)
        injection hsh with hsh hsh2 hsh3
        injection hsh with hsh
        injection hsh with hsh hsh4 hsh5
        subst hsh
        rw [hlen] at hcr hcells
        have HCells := hid hcells
        have HFz := hid hfz
        have HCr := hid hcr
        clear ho hb0 hlen hcells hfz hcr hsh2 hsh3 
        by_cases hcb : c < b
        · have HR := hid (fun W hW => HU.out.run W r c hW hlt hcb)
          have t0 := HCr.out
          have t1 := HCells.out c hcb
          have t2 := HFz.out c
          obtain ⟨x1, hx1⟩ : ∃ x, ((rowsF a (partR b F r c)).getD r []).getD c 0 = x := ⟨_, rfl⟩
          rw [hx1] at t1
          have HX1 := hid t1
          clear hx1
          go_wp2
          go_region_with (go_at_call 71; refine (HR.out _ Hb3.out.drew).mono ?_; rintro e w2 ⟨rfl, hb2⟩; have HB2 := hid hb2; have t3 := (hb2.cell (p := ⟨w.heap.size, r, none⟩) (by simpa using hz3)).trans HCr.out; have t4 := (hb2.cell (p := ⟨g, c, none⟩) (by simpa using hgl)).trans HX1.out; have t5 := (hb2.frozen (p := ⟨g, c, none⟩) (by simpa using hgl)).trans (HFz.out c); clear hb2)
          all_goals go_wp2
          all_goals go_roundw
          all_goals try (simp [intOf]; omega)
          all_goals exact ⟨c + 1, by omega, by go_num, (by
                have h := (((HO3.out.drew.below HB2.out).mono (show wi.drew.heap.size ≤ w2.heap.size from HB2.out.size)).store (by decide) (r := r) (by rw [rowsF_length]; exact hlt) (by rw [HLen.out]; omega) t3 c (F r c) (by rw [HLen.out]; exact hcb))
                rw [partR_set hlt hcb] at h
                exact h.mono (by simp [World.setCell])), (below_to Hb3.out.drew HB2.out).setCell (p := ⟨g, c, none⟩) hBg _, Nat.lt_of_lt_of_le hz3 (by have := HB2.out.size; simpa [World.setCell] using this)⟩
        · have Hcb := hid (show c = b by omega)
          have hcb' : ¬ (c : Int) < (b : Int) := by omega
          clear hcb
          go_wp2
          go_roundw
          case rel => exact ⟨r + 1, by omega, by go_num, (by have h := HO3.out; rw [Hcb.out, partR_full] at h; exact h), Hb3.out, hz3⟩
          case measure => simp [intOf]; omega
    · have Hr := hid (show r = a by omega)
      have hr' : ¬ (r : Int) < (a : Int) := by omega
      have HOf : Hid (OwnSS 3 27 wr w.heap.size wr.heap.size (.slice (some ⟨w.heap.size, 0, none⟩) a a) (gridL a b F)) := hid (by
        have h := HO.out
        rw [Hr.out, rowsF_congr (g := fun i => rowL b (F i)) (fun i hi => if_pos hi)] at h
        exact h)
      clear hlt
      go_wp2
      go_ret
      exact ⟨_, rfl, HOf.out, Hb.out⟩

set_option maxRecDepth 100000 in
set_option maxHeartbeats 3200000 in
theorem gridOfPromoteTableau_any (a b : Nat) (p1 : Nat) (F : Nat → Nat → Int) (w : World) (hU : FunG 65 #[.pointer (some ⟨p1, 0, none⟩)] a b F w) (ha : 1 ≤ a) (ha2 : a ≤ 10) (hb : 1 ≤ b) (hb2 : b ≤ 10) :
    Calls Try.prog 57 #[.int .i64 (a : Int), .int .i64 (b : Int), .func (.func 65) #[] #[.pointer (some ⟨p1, 0, none⟩)]] w fun (r : Ending) w' => ∃ u, r = Ending.returned u ∧ OwnSS 3 27 w' w.heap.size w'.heap.size u (gridL a b F) ∧ Below w.heap.size w w' := by
  have HU := hid hU
  have hmk := run_make_row' (P := Try.prog) 45 27 (.slice none 0 0) 24 Try.underlying45 Try.info27 rfl .i64 .i64 a (by omega) (by omega)
  have hmk2 := run_make_row' (P := Try.prog) 27 3 (.int .i64 0) 8 Try.underlying27 Try.info3 rfl .i64 .i64 b (by omega) (by omega)
  have HMk2 := hid hmk2
  have HM := hid (OwnSS.made (P := Try.prog) 3 27 w (rowsF a (fun _ => [])) (by rw [rowsF_length]; omega))
  rw [rowsF_length] at HM
  clear hU hmk2
  go_enter Try.func57, Try.ntmps57
  go_wp2
  clear hmk
  go_loopw [14] (fun i wr => ∃ r : Nat, r ≤ a ∧ i = .int .i64 r ∧ OwnSS 3 27 wr w.heap.size wr.heap.size (.slice (some ⟨w.heap.size, 0, none⟩) a a) (rowsF a (fun i => if i < r then rowL b (F i) else [])) ∧ Below w.heap.size w wr ∧ w.heap.size < wr.heap.size) (fun i _ => a - (intOf i).toNat)
  case atStart => exact ⟨0, Nat.zero_le _, rfl, (by
    have h := HM.out
    have e : fillSS (rowsF a (fun _ => [])) 0 = rowsF a (fun i => if i < 0 then rowL b (F i) else []) := by
      unfold fillSS
      rw [rowsF_length]
      exact rowsF_congr fun i _ => by rw [if_neg (Nat.not_lt_zero i), if_neg (Nat.not_lt_zero i)]
    rw [e] at h
    exact h.mono (by simp)), below_alloc (Below.refl _ _) _, by simp⟩
  case round =>
    obtain ⟨r, hr, rfl, ho, hb0, hz⟩ := hrel
    have HO := hid ho
    have Hb := hid hb0
    clear ho hb0
    by_cases hlt : r < a
    · have hmk2 := HMk2.out
      obtain ⟨ob, hob, hobE, hfz, ⟨x, hx⟩, hput⟩ := (HO.out.below (below_alloc (Below.refl _ wr) (.cells (madeCells #[.int .i64 0] b) 3))).put (by decide) (show wr.heap.size ≤ (wr.alloc (.cells (madeCells #[.int .i64 0] b) 3)).heap.size by simp) (j := r) (by rw [rowsF_length]; exact hlt) (u := .slice (some ⟨wr.heap.size, 0, none⟩) b b) (l := List.replicate b 0) (by
        have h := (Blk.new wr 3 (Vals (List.replicate b 0))).own (B := w.heap.size) (by omega) (by simp; omega)
        rw [List.length_replicate] at h
        rw [Vals_made]; exact h) (fun k hk => by simp only [Value.ownBlock, Option.some.injEq] at hk; subst hk; simp)
      injection hob with hob
      injection hob with hob _ _
      subst hob
      rw [rowsF_set _ hlt] at hput
      have e1 : rowsF a (fun i => if i = r then List.replicate b 0 else if i < r then rowL b (F i) else []) = rowsF a (partR b F r 0) := rowsF_congr fun i _ => by
        unfold partR
        by_cases h1 : i = r
        · subst h1
          rw [if_pos rfl, if_neg (Nat.lt_irrefl _), if_pos rfl, ← rowL_zero]
          exact rowL_congr fun j _ => by rw [if_neg (Nat.not_lt_zero j)]
        · rw [if_neg h1]
          by_cases h2 : i < r
          · rw [if_pos h2, if_pos h2]
          · rw [if_neg h2, if_neg h2, if_neg h1]
      rw [e1] at hput
      have HP := hid hput
      obtain ⟨A0, c0, hsh, hrows⟩ := HO.out.rows
      obtain ⟨ob2, u0, hob2, -, hx0, -⟩ := hrows r (by rw [rowsF_length]; exact hlt)
      rw [hob2] at hsh
      injection hsh with hsh hsh2 hsh3
      injection hsh with hsh
      injection hsh with hsh hsh4 hsh5
      subst hsh
      clear hrows hob2 hsh2 hsh3
      have hWW : ((wr.alloc (.cells (madeCells #[.int .i64 0] b) 3)).setCell ⟨w.heap.size, r, none⟩ (.slice (some ⟨wr.heap.size, 0, none⟩) b b)) = ((wr.setCell ⟨w.heap.size, r, none⟩ (.slice (some ⟨wr.heap.size, 0, none⟩) b b)).alloc (.cells (madeCells #[.int .i64 0] b) 3)) := by
        exact World.setCell_alloc_past _ _ _ _ hz
      rw [hWW] at HP
      obtain ⟨W1, hW1⟩ : ∃ W1 : World, W1 = ((wr.setCell ⟨w.heap.size, r, none⟩ (.slice (some ⟨wr.heap.size, 0, none⟩) b b)).alloc (.cells (madeCells #[.int .i64 0] b) 3)) := ⟨_, rfl⟩
      have HB1 : Hid (Below w.heap.size w W1) := hid (by rw [hW1]; exact (Hb.out.setCell (p := ⟨w.heap.size, r, none⟩) (Nat.le_refl _) _).alloc (by simp [World.setCell]; omega) _)
      have hz1 : (wr.alloc (.cells (madeCells #[.int .i64 0] b) 3)).heap.size ≤ W1.heap.size := by rw [hW1]; simp [World.setCell]
      have hz2 : w.heap.size < W1.heap.size := by have : (wr.alloc (.cells (madeCells #[.int .i64 0] b) 3)).heap.size = wr.heap.size + 1 := by simp
                                                  omega
      rw [← hW1] at HP
      replace HP := hid (HP.out.mono hz1)
      clear hput e1 hWW hz1
      go_wp2
      rw [← hW1]
      clear hW1 hx hx0 hfz hmk2
      go_loopw [27] (fun i wi => ∃ c : Nat, c ≤ b ∧ i = .int .i64 c ∧ OwnSS 3 27 wi w.heap.size wi.heap.size (.slice (some ⟨w.heap.size, 0, none⟩) a a) (rowsF a (partR b F r c)) ∧ Below w.heap.size w wi ∧ w.heap.size < wi.heap.size) (fun i _ => b - (intOf i).toNat)
      case atStart => exact ⟨0, Nat.zero_le _, rfl, HP.out, HB1.out, hz2⟩
      case round =>
        obtain ⟨c, hc, rfl, ho, hb0, hz3⟩ := hrel
        obtain ⟨wi, rfl⟩ : ∃ x, x = wr := ⟨wr, rfl⟩
        have HO3 := hid ho
        have Hb3 := hid hb0
        have hlen : ((rowsF a (partR b F r c)).getD r []).length = b := by rw [rowsF_getD hlt]; unfold partR; rw [if_neg (Nat.lt_irrefl _), if_pos rfl, rowL_length]
        have HLen := hid hlen
        obtain ⟨o', cv', g, cg, hsh, hcr, -, -, hBg, hgl, -, hcells, hfz, -⟩ := ho.cells (by decide) (r := r) (by rw [rowsF_length]; exact hlt) (by omega)
        injection hsh with hsh hsh2 hsh3
        injection hsh with hsh
        injection hsh with hsh hsh4 hsh5
        subst hsh
        rw [hlen] at hcr hcells
        have HCells := hid hcells
        have HFz := hid hfz
        have HCr := hid hcr
        clear ho hb0 hlen hcells hfz hcr hsh2 hsh3 
        by_cases hcb : c < b
        · have HR := hid (fun W hW => HU.out.run W r c hW hlt hcb)
          have t0 := HCr.out
          have t1 := HCells.out c hcb
          have t2 := HFz.out c
          obtain ⟨x1, hx1⟩ : ∃ x, ((rowsF a (partR b F r c)).getD r []).getD c 0 = x := ⟨_, rfl⟩
          rw [hx1] at t1
          have HX1 := hid t1
          clear hx1
          go_wp2
          go_region_with (go_at_call 65; refine (HR.out _ Hb3.out.drew).mono ?_; rintro e w2 ⟨rfl, hb2⟩; have HB2 := hid hb2; have t3 := (hb2.cell (p := ⟨w.heap.size, r, none⟩) (by simpa using hz3)).trans HCr.out; have t4 := (hb2.cell (p := ⟨g, c, none⟩) (by simpa using hgl)).trans HX1.out; have t5 := (hb2.frozen (p := ⟨g, c, none⟩) (by simpa using hgl)).trans (HFz.out c); clear hb2)
          all_goals go_wp2
          all_goals go_roundw
          all_goals try (simp [intOf]; omega)
          all_goals exact ⟨c + 1, by omega, by go_num, (by
                have h := (((HO3.out.drew.below HB2.out).mono (show wi.drew.heap.size ≤ w2.heap.size from HB2.out.size)).store (by decide) (r := r) (by rw [rowsF_length]; exact hlt) (by rw [HLen.out]; omega) t3 c (F r c) (by rw [HLen.out]; exact hcb))
                rw [partR_set hlt hcb] at h
                exact h.mono (by simp [World.setCell])), (below_to Hb3.out.drew HB2.out).setCell (p := ⟨g, c, none⟩) hBg _, Nat.lt_of_lt_of_le hz3 (by have := HB2.out.size; simpa [World.setCell] using this)⟩
        · have Hcb := hid (show c = b by omega)
          have hcb' : ¬ (c : Int) < (b : Int) := by omega
          clear hcb
          go_wp2
          go_roundw
          case rel => exact ⟨r + 1, by omega, by go_num, (by have h := HO3.out; rw [Hcb.out, partR_full] at h; exact h), Hb3.out, hz3⟩
          case measure => simp [intOf]; omega
    · have Hr := hid (show r = a by omega)
      have hr' : ¬ (r : Int) < (a : Int) := by omega
      have HOf : Hid (OwnSS 3 27 wr w.heap.size wr.heap.size (.slice (some ⟨w.heap.size, 0, none⟩) a a) (gridL a b F)) := hid (by
        have h := HO.out
        rw [Hr.out, rowsF_congr (g := fun i => rowL b (F i)) (fun i hi => if_pos hi)] at h
        exact h)
      clear hlt
      go_wp2
      go_ret
      exact ⟨_, rfl, HOf.out, Hb.out⟩

set_option maxRecDepth 100000 in
set_option maxHeartbeats 3200000 in
theorem gridOfTableauOf_any (a b : Nat) (p1 p2 : Nat) (F : Nat → Nat → Int) (w : World) (hU : FunG 58 #[.pointer (some ⟨p1, 0, none⟩), .pointer (some ⟨p2, 0, none⟩)] a b F w) (ha : 1 ≤ a) (ha2 : a ≤ 10) (hb : 1 ≤ b) (hb2 : b ≤ 10) :
    Calls Try.prog 57 #[.int .i64 (a : Int), .int .i64 (b : Int), .func (.func 58) #[] #[.pointer (some ⟨p1, 0, none⟩), .pointer (some ⟨p2, 0, none⟩)]] w fun (r : Ending) w' => ∃ u, r = Ending.returned u ∧ OwnSS 3 27 w' w.heap.size w'.heap.size u (gridL a b F) ∧ Below w.heap.size w w' := by
  have HU := hid hU
  have hmk := run_make_row' (P := Try.prog) 45 27 (.slice none 0 0) 24 Try.underlying45 Try.info27 rfl .i64 .i64 a (by omega) (by omega)
  have hmk2 := run_make_row' (P := Try.prog) 27 3 (.int .i64 0) 8 Try.underlying27 Try.info3 rfl .i64 .i64 b (by omega) (by omega)
  have HMk2 := hid hmk2
  have HM := hid (OwnSS.made (P := Try.prog) 3 27 w (rowsF a (fun _ => [])) (by rw [rowsF_length]; omega))
  rw [rowsF_length] at HM
  clear hU hmk2
  go_enter Try.func57, Try.ntmps57
  go_wp2
  clear hmk
  go_loopw [14] (fun i wr => ∃ r : Nat, r ≤ a ∧ i = .int .i64 r ∧ OwnSS 3 27 wr w.heap.size wr.heap.size (.slice (some ⟨w.heap.size, 0, none⟩) a a) (rowsF a (fun i => if i < r then rowL b (F i) else [])) ∧ Below w.heap.size w wr ∧ w.heap.size < wr.heap.size) (fun i _ => a - (intOf i).toNat)
  case atStart => exact ⟨0, Nat.zero_le _, rfl, (by
    have h := HM.out
    have e : fillSS (rowsF a (fun _ => [])) 0 = rowsF a (fun i => if i < 0 then rowL b (F i) else []) := by
      unfold fillSS
      rw [rowsF_length]
      exact rowsF_congr fun i _ => by rw [if_neg (Nat.not_lt_zero i), if_neg (Nat.not_lt_zero i)]
    rw [e] at h
    exact h.mono (by simp)), below_alloc (Below.refl _ _) _, by simp⟩
  case round =>
    obtain ⟨r, hr, rfl, ho, hb0, hz⟩ := hrel
    have HO := hid ho
    have Hb := hid hb0
    clear ho hb0
    by_cases hlt : r < a
    · have hmk2 := HMk2.out
      obtain ⟨ob, hob, hobE, hfz, ⟨x, hx⟩, hput⟩ := (HO.out.below (below_alloc (Below.refl _ wr) (.cells (madeCells #[.int .i64 0] b) 3))).put (by decide) (show wr.heap.size ≤ (wr.alloc (.cells (madeCells #[.int .i64 0] b) 3)).heap.size by simp) (j := r) (by rw [rowsF_length]; exact hlt) (u := .slice (some ⟨wr.heap.size, 0, none⟩) b b) (l := List.replicate b 0) (by
        have h := (Blk.new wr 3 (Vals (List.replicate b 0))).own (B := w.heap.size) (by omega) (by simp; omega)
        rw [List.length_replicate] at h
        rw [Vals_made]; exact h) (fun k hk => by simp only [Value.ownBlock, Option.some.injEq] at hk; subst hk; simp)
      injection hob with hob
      injection hob with hob _ _
      subst hob
      rw [rowsF_set _ hlt] at hput
      have e1 : rowsF a (fun i => if i = r then List.replicate b 0 else if i < r then rowL b (F i) else []) = rowsF a (partR b F r 0) := rowsF_congr fun i _ => by
        unfold partR
        by_cases h1 : i = r
        · subst h1
          rw [if_pos rfl, if_neg (Nat.lt_irrefl _), if_pos rfl, ← rowL_zero]
          exact rowL_congr fun j _ => by rw [if_neg (Nat.not_lt_zero j)]
        · rw [if_neg h1]
          by_cases h2 : i < r
          · rw [if_pos h2, if_pos h2]
          · rw [if_neg h2, if_neg h2, if_neg h1]
      rw [e1] at hput
      have HP := hid hput
      obtain ⟨A0, c0, hsh, hrows⟩ := HO.out.rows
      obtain ⟨ob2, u0, hob2, -, hx0, -⟩ := hrows r (by rw [rowsF_length]; exact hlt)
      rw [hob2] at hsh
      injection hsh with hsh hsh2 hsh3
      injection hsh with hsh
      injection hsh with hsh hsh4 hsh5
      subst hsh
      clear hrows hob2 hsh2 hsh3
      have hWW : ((wr.alloc (.cells (madeCells #[.int .i64 0] b) 3)).setCell ⟨w.heap.size, r, none⟩ (.slice (some ⟨wr.heap.size, 0, none⟩) b b)) = ((wr.setCell ⟨w.heap.size, r, none⟩ (.slice (some ⟨wr.heap.size, 0, none⟩) b b)).alloc (.cells (madeCells #[.int .i64 0] b) 3)) := by
        exact World.setCell_alloc_past _ _ _ _ hz
      rw [hWW] at HP
      obtain ⟨W1, hW1⟩ : ∃ W1 : World, W1 = ((wr.setCell ⟨w.heap.size, r, none⟩ (.slice (some ⟨wr.heap.size, 0, none⟩) b b)).alloc (.cells (madeCells #[.int .i64 0] b) 3)) := ⟨_, rfl⟩
      have HB1 : Hid (Below w.heap.size w W1) := hid (by rw [hW1]; exact (Hb.out.setCell (p := ⟨w.heap.size, r, none⟩) (Nat.le_refl _) _).alloc (by simp [World.setCell]; omega) _)
      have hz1 : (wr.alloc (.cells (madeCells #[.int .i64 0] b) 3)).heap.size ≤ W1.heap.size := by rw [hW1]; simp [World.setCell]
      have hz2 : w.heap.size < W1.heap.size := by have : (wr.alloc (.cells (madeCells #[.int .i64 0] b) 3)).heap.size = wr.heap.size + 1 := by simp
                                                  omega
      rw [← hW1] at HP
      replace HP := hid (HP.out.mono hz1)
      clear hput e1 hWW hz1
      go_wp2
      rw [← hW1]
      clear hW1 hx hx0 hfz hmk2
      go_loopw [27] (fun i wi => ∃ c : Nat, c ≤ b ∧ i = .int .i64 c ∧ OwnSS 3 27 wi w.heap.size wi.heap.size (.slice (some ⟨w.heap.size, 0, none⟩) a a) (rowsF a (partR b F r c)) ∧ Below w.heap.size w wi ∧ w.heap.size < wi.heap.size) (fun i _ => b - (intOf i).toNat)
      case atStart => exact ⟨0, Nat.zero_le _, rfl, HP.out, HB1.out, hz2⟩
      case round =>
        obtain ⟨c, hc, rfl, ho, hb0, hz3⟩ := hrel
        obtain ⟨wi, rfl⟩ : ∃ x, x = wr := ⟨wr, rfl⟩
        have HO3 := hid ho
        have Hb3 := hid hb0
        have hlen : ((rowsF a (partR b F r c)).getD r []).length = b := by rw [rowsF_getD hlt]; unfold partR; rw [if_neg (Nat.lt_irrefl _), if_pos rfl, rowL_length]
        have HLen := hid hlen
        obtain ⟨o', cv', g, cg, hsh, hcr, -, -, hBg, hgl, -, hcells, hfz, -⟩ := ho.cells (by decide) (r := r) (by rw [rowsF_length]; exact hlt) (by omega)
        injection hsh with hsh hsh2 hsh3
        injection hsh with hsh
        injection hsh with hsh hsh4 hsh5
        subst hsh
        rw [hlen] at hcr hcells
        have HCells := hid hcells
        have HFz := hid hfz
        have HCr := hid hcr
        clear ho hb0 hlen hcells hfz hcr hsh2 hsh3 
        by_cases hcb : c < b
        · have HR := hid (fun W hW => HU.out.run W r c hW hlt hcb)
          have t0 := HCr.out
          have t1 := HCells.out c hcb
          have t2 := HFz.out c
          obtain ⟨x1, hx1⟩ : ∃ x, ((rowsF a (partR b F r c)).getD r []).getD c 0 = x := ⟨_, rfl⟩
          rw [hx1] at t1
          have HX1 := hid t1
          clear hx1
          go_wp2
          go_region_with (go_at_call 58; refine (HR.out _ Hb3.out.drew).mono ?_; rintro e w2 ⟨rfl, hb2⟩; have HB2 := hid hb2; have t3 := (hb2.cell (p := ⟨w.heap.size, r, none⟩) (by simpa using hz3)).trans HCr.out; have t4 := (hb2.cell (p := ⟨g, c, none⟩) (by simpa using hgl)).trans HX1.out; have t5 := (hb2.frozen (p := ⟨g, c, none⟩) (by simpa using hgl)).trans (HFz.out c); clear hb2)
          all_goals go_wp2
          all_goals go_roundw
          all_goals try (simp [intOf]; omega)
          all_goals exact ⟨c + 1, by omega, by go_num, (by
                have h := (((HO3.out.drew.below HB2.out).mono (show wi.drew.heap.size ≤ w2.heap.size from HB2.out.size)).store (by decide) (r := r) (by rw [rowsF_length]; exact hlt) (by rw [HLen.out]; omega) t3 c (F r c) (by rw [HLen.out]; exact hcb))
                rw [partR_set hlt hcb] at h
                exact h.mono (by simp [World.setCell])), (below_to Hb3.out.drew HB2.out).setCell (p := ⟨g, c, none⟩) hBg _, Nat.lt_of_lt_of_le hz3 (by have := HB2.out.size; simpa [World.setCell] using this)⟩
        · have Hcb := hid (show c = b by omega)
          have hcb' : ¬ (c : Int) < (b : Int) := by omega
          clear hcb
          go_wp2
          go_roundw
          case rel => exact ⟨r + 1, by omega, by go_num, (by have h := HO3.out; rw [Hcb.out, partR_full] at h; exact h), Hb3.out, hz3⟩
          case measure => simp [intOf]; omega
    · have Hr := hid (show r = a by omega)
      have hr' : ¬ (r : Int) < (a : Int) := by omega
      have HOf : Hid (OwnSS 3 27 wr w.heap.size wr.heap.size (.slice (some ⟨w.heap.size, 0, none⟩) a a) (gridL a b F)) := hid (by
        have h := HO.out
        rw [Hr.out, rowsF_congr (g := fun i => rowL b (F i)) (fun i hi => if_pos hi)] at h
        exact h)
      clear hlt
      go_wp2
      go_ret
      exact ⟨_, rfl, HOf.out, Hb.out⟩

set_option maxRecDepth 100000 in
set_option maxHeartbeats 3200000 in
theorem gridOfEvacuateTableau_any (a b : Nat) (p1 p2 p3 : Nat) (F : Nat → Nat → Int) (w : World) (hU : FunG 70 #[.pointer (some ⟨p1, 0, none⟩), .pointer (some ⟨p2, 0, none⟩), .pointer (some ⟨p3, 0, none⟩)] a b F w) (ha : 1 ≤ a) (ha2 : a ≤ 10) (hb : 1 ≤ b) (hb2 : b ≤ 10) :
    Calls Try.prog 57 #[.int .i64 (a : Int), .int .i64 (b : Int), .func (.func 70) #[] #[.pointer (some ⟨p1, 0, none⟩), .pointer (some ⟨p2, 0, none⟩), .pointer (some ⟨p3, 0, none⟩)]] w fun (r : Ending) w' => ∃ u, r = Ending.returned u ∧ OwnSS 3 27 w' w.heap.size w'.heap.size u (gridL a b F) ∧ Below w.heap.size w w' := by
  have HU := hid hU
  have hmk := run_make_row' (P := Try.prog) 45 27 (.slice none 0 0) 24 Try.underlying45 Try.info27 rfl .i64 .i64 a (by omega) (by omega)
  have hmk2 := run_make_row' (P := Try.prog) 27 3 (.int .i64 0) 8 Try.underlying27 Try.info3 rfl .i64 .i64 b (by omega) (by omega)
  have HMk2 := hid hmk2
  have HM := hid (OwnSS.made (P := Try.prog) 3 27 w (rowsF a (fun _ => [])) (by rw [rowsF_length]; omega))
  rw [rowsF_length] at HM
  clear hU hmk2
  go_enter Try.func57, Try.ntmps57
  go_wp2
  clear hmk
  go_loopw [14] (fun i wr => ∃ r : Nat, r ≤ a ∧ i = .int .i64 r ∧ OwnSS 3 27 wr w.heap.size wr.heap.size (.slice (some ⟨w.heap.size, 0, none⟩) a a) (rowsF a (fun i => if i < r then rowL b (F i) else [])) ∧ Below w.heap.size w wr ∧ w.heap.size < wr.heap.size) (fun i _ => a - (intOf i).toNat)
  case atStart => exact ⟨0, Nat.zero_le _, rfl, (by
    have h := HM.out
    have e : fillSS (rowsF a (fun _ => [])) 0 = rowsF a (fun i => if i < 0 then rowL b (F i) else []) := by
      unfold fillSS
      rw [rowsF_length]
      exact rowsF_congr fun i _ => by rw [if_neg (Nat.not_lt_zero i), if_neg (Nat.not_lt_zero i)]
    rw [e] at h
    exact h.mono (by simp)), below_alloc (Below.refl _ _) _, by simp⟩
  case round =>
    obtain ⟨r, hr, rfl, ho, hb0, hz⟩ := hrel
    have HO := hid ho
    have Hb := hid hb0
    clear ho hb0
    by_cases hlt : r < a
    · have hmk2 := HMk2.out
      obtain ⟨ob, hob, hobE, hfz, ⟨x, hx⟩, hput⟩ := (HO.out.below (below_alloc (Below.refl _ wr) (.cells (madeCells #[.int .i64 0] b) 3))).put (by decide) (show wr.heap.size ≤ (wr.alloc (.cells (madeCells #[.int .i64 0] b) 3)).heap.size by simp) (j := r) (by rw [rowsF_length]; exact hlt) (u := .slice (some ⟨wr.heap.size, 0, none⟩) b b) (l := List.replicate b 0) (by
        have h := (Blk.new wr 3 (Vals (List.replicate b 0))).own (B := w.heap.size) (by omega) (by simp; omega)
        rw [List.length_replicate] at h
        rw [Vals_made]; exact h) (fun k hk => by simp only [Value.ownBlock, Option.some.injEq] at hk; subst hk; simp)
      injection hob with hob
      injection hob with hob _ _
      subst hob
      rw [rowsF_set _ hlt] at hput
      have e1 : rowsF a (fun i => if i = r then List.replicate b 0 else if i < r then rowL b (F i) else []) = rowsF a (partR b F r 0) := rowsF_congr fun i _ => by
        unfold partR
        by_cases h1 : i = r
        · subst h1
          rw [if_pos rfl, if_neg (Nat.lt_irrefl _), if_pos rfl, ← rowL_zero]
          exact rowL_congr fun j _ => by rw [if_neg (Nat.not_lt_zero j)]
        · rw [if_neg h1]
          by_cases h2 : i < r
          · rw [if_pos h2, if_pos h2]
          · rw [if_neg h2, if_neg h2, if_neg h1]
      rw [e1] at hput
      have HP := hid hput
      obtain ⟨A0, c0, hsh, hrows⟩ := HO.out.rows
      obtain ⟨ob2, u0, hob2, -, hx0, -⟩ := hrows r (by rw [rowsF_length]; exact hlt)
      rw [hob2] at hsh
      injection hsh with hsh hsh2 hsh3
      injection hsh with hsh
      injection hsh with hsh hsh4 hsh5
      subst hsh
      clear hrows hob2 hsh2 hsh3
      have hWW : ((wr.alloc (.cells (madeCells #[.int .i64 0] b) 3)).setCell ⟨w.heap.size, r, none⟩ (.slice (some ⟨wr.heap.size, 0, none⟩) b b)) = ((wr.setCell ⟨w.heap.size, r, none⟩ (.slice (some ⟨wr.heap.size, 0, none⟩) b b)).alloc (.cells (madeCells #[.int .i64 0] b) 3)) := by
        exact World.setCell_alloc_past _ _ _ _ hz
      rw [hWW] at HP
      obtain ⟨W1, hW1⟩ : ∃ W1 : World, W1 = ((wr.setCell ⟨w.heap.size, r, none⟩ (.slice (some ⟨wr.heap.size, 0, none⟩) b b)).alloc (.cells (madeCells #[.int .i64 0] b) 3)) := ⟨_, rfl⟩
      have HB1 : Hid (Below w.heap.size w W1) := hid (by rw [hW1]; exact (Hb.out.setCell (p := ⟨w.heap.size, r, none⟩) (Nat.le_refl _) _).alloc (by simp [World.setCell]; omega) _)
      have hz1 : (wr.alloc (.cells (madeCells #[.int .i64 0] b) 3)).heap.size ≤ W1.heap.size := by rw [hW1]; simp [World.setCell]
      have hz2 : w.heap.size < W1.heap.size := by have : (wr.alloc (.cells (madeCells #[.int .i64 0] b) 3)).heap.size = wr.heap.size + 1 := by simp
                                                  omega
      rw [← hW1] at HP
      replace HP := hid (HP.out.mono hz1)
      clear hput e1 hWW hz1
      go_wp2
      rw [← hW1]
      clear hW1 hx hx0 hfz hmk2
      go_loopw [27] (fun i wi => ∃ c : Nat, c ≤ b ∧ i = .int .i64 c ∧ OwnSS 3 27 wi w.heap.size wi.heap.size (.slice (some ⟨w.heap.size, 0, none⟩) a a) (rowsF a (partR b F r c)) ∧ Below w.heap.size w wi ∧ w.heap.size < wi.heap.size) (fun i _ => b - (intOf i).toNat)
      case atStart => exact ⟨0, Nat.zero_le _, rfl, HP.out, HB1.out, hz2⟩
      case round =>
        obtain ⟨c, hc, rfl, ho, hb0, hz3⟩ := hrel
        obtain ⟨wi, rfl⟩ : ∃ x, x = wr := ⟨wr, rfl⟩
        have HO3 := hid ho
        have Hb3 := hid hb0
        have hlen : ((rowsF a (partR b F r c)).getD r []).length = b := by rw [rowsF_getD hlt]; unfold partR; rw [if_neg (Nat.lt_irrefl _), if_pos rfl, rowL_length]
        have HLen := hid hlen
        obtain ⟨o', cv', g, cg, hsh, hcr, -, -, hBg, hgl, -, hcells, hfz, -⟩ := ho.cells (by decide) (r := r) (by rw [rowsF_length]; exact hlt) (by omega)
        injection hsh with hsh hsh2 hsh3
        injection hsh with hsh
        injection hsh with hsh hsh4 hsh5
        subst hsh
        rw [hlen] at hcr hcells
        have HCells := hid hcells
        have HFz := hid hfz
        have HCr := hid hcr
        clear ho hb0 hlen hcells hfz hcr hsh2 hsh3 
        by_cases hcb : c < b
        · have HR := hid (fun W hW => HU.out.run W r c hW hlt hcb)
          have t0 := HCr.out
          have t1 := HCells.out c hcb
          have t2 := HFz.out c
          obtain ⟨x1, hx1⟩ : ∃ x, ((rowsF a (partR b F r c)).getD r []).getD c 0 = x := ⟨_, rfl⟩
          rw [hx1] at t1
          have HX1 := hid t1
          clear hx1
          go_wp2
          go_region_with (go_at_call 70; refine (HR.out _ Hb3.out.drew).mono ?_; rintro e w2 ⟨rfl, hb2⟩; have HB2 := hid hb2; have t3 := (hb2.cell (p := ⟨w.heap.size, r, none⟩) (by simpa using hz3)).trans HCr.out; have t4 := (hb2.cell (p := ⟨g, c, none⟩) (by simpa using hgl)).trans HX1.out; have t5 := (hb2.frozen (p := ⟨g, c, none⟩) (by simpa using hgl)).trans (HFz.out c); clear hb2)
          all_goals go_wp2
          all_goals go_roundw
          all_goals try (simp [intOf]; omega)
          all_goals exact ⟨c + 1, by omega, by go_num, (by
                have h := (((HO3.out.drew.below HB2.out).mono (show wi.drew.heap.size ≤ w2.heap.size from HB2.out.size)).store (by decide) (r := r) (by rw [rowsF_length]; exact hlt) (by rw [HLen.out]; omega) t3 c (F r c) (by rw [HLen.out]; exact hcb))
                rw [partR_set hlt hcb] at h
                exact h.mono (by simp [World.setCell])), (below_to Hb3.out.drew HB2.out).setCell (p := ⟨g, c, none⟩) hBg _, Nat.lt_of_lt_of_le hz3 (by have := HB2.out.size; simpa [World.setCell] using this)⟩
        · have Hcb := hid (show c = b by omega)
          have hcb' : ¬ (c : Int) < (b : Int) := by omega
          clear hcb
          go_wp2
          go_roundw
          case rel => exact ⟨r + 1, by omega, by go_num, (by have h := HO3.out; rw [Hcb.out, partR_full] at h; exact h), Hb3.out, hz3⟩
          case measure => simp [intOf]; omega
    · have Hr := hid (show r = a by omega)
      have hr' : ¬ (r : Int) < (a : Int) := by omega
      have HOf : Hid (OwnSS 3 27 wr w.heap.size wr.heap.size (.slice (some ⟨w.heap.size, 0, none⟩) a a) (gridL a b F)) := hid (by
        have h := HO.out
        rw [Hr.out, rowsF_congr (g := fun i => rowL b (F i)) (fun i hi => if_pos hi)] at h
        exact h)
      clear hlt
      go_wp2
      go_ret
      exact ⟨_, rfl, HOf.out, Hb.out⟩

end Go.Proofs.Ytbbkoagjplapkaa
