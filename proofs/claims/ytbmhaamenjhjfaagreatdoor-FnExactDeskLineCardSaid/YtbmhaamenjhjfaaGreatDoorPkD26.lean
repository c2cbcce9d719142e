/- DskP -/
import Derived.Deep.RegionHeld3
import Derived.Test.YtbmhaamenjhjfaaGreatDoorPkD24
import Derived.Test.YtbmhaamenjhjfaaGreatDoorPkD25
namespace Go.Proofs.YtbmhaamenjhjfaaGreatDoor
open Go.RowKit Go.WideShapes Go.ChangeShapes
set_option linter.unusedVariables false
theorem splR_free (c : UInt8) : ∀ (n : Nat) (l : List UInt8), l.length ≤ n → ∀ p ∈ splR c l, c ∉ p := by
  intro n
  induction n with
  | zero =>
    intro l hl p hp
    obtain rfl : l = [] := List.length_eq_zero_iff.1 (by omega)
    rw [splR_no (by simp)] at hp
    obtain rfl : p = [] := by simpa using hp
    simp
  | succ n ih =>
    intro l hl p hp
    rcases mem_cut c l with h | ⟨x, y, rfl, hx⟩
    · rw [splR_no h] at hp
      obtain rfl : p = l := by simpa using hp
      exact h
    · rw [splR_cons hx] at hp
      rcases List.mem_cons.1 hp with rfl | hp
      · exact hx
      · exact ih y (by simp at hl; omega) p hp
theorem splitL_free (c : UInt8) (l : List UInt8) (j : Nat) : c ∉ (splitL c l).getD j [] := by
  rw [splitL_eq]
  by_cases hj : j < (splR c l).length
  · have e : (splR c l).getD j [] = (splR c l)[j] := by simp [List.getD, hj]
    rw [e]
    exact splR_free c l.length l (Nat.le_refl _) _ (List.getElem_mem hj)
  · have e : (splR c l).getD j [] = [] := by simp [List.getD, hj]
    rw [e]; simp
theorem splitL_pos (c : UInt8) (l : List UInt8) : 1 ≤ (splitL c l).length := by
  rw [splitL_eq]; exact List.length_pos_iff.2 (splR_ne c l)
theorem w0D_free (l : List UInt8) : (32 : UInt8) ∉ w0D l := splitL_free 32 l 0
theorem wdD_split (l : List UInt8) : wdD l = w0D l :: tsD l := by
  unfold w0D tsD wdD
  have h := splitL_pos 32 l
  cases h2 : splitL 32 l with
  | nil => rw [h2] at h; simp at h
  | cons a r => rfl
theorem tsD_length (l : List UInt8) : (tsD l).length + 1 = (wdD l).length := by rw [wdD_split]; rfl
theorem tsD_getD (l : List UInt8) (k : Nat) : (tsD l).getD k [] = (wdD l).getD (k + 1) [] := by rw [wdD_split]; rfl
theorem tsD_part (l : List UInt8) (k : Nat) : ((tsD l).getD k []).length ≤ l.length := by rw [tsD_getD]; exact splitL_part 32 l (k + 1)
theorem rqK_form (w0 : List UInt8) (ts : List (List UInt8)) (k : Nat) {f : List UInt8} {ns p : List Int} (h : rqK w0 ts k = some (f, ns, p)) : f.length = w0.length + 2 * k ∧ ns.length ≤ k := by
  induction k generalizing f ns p with
  | zero => simp only [rqK, Option.some.injEq, Prod.mk.injEq] at h; obtain ⟨rfl, rfl, rfl⟩ := h; simp
  | succ k ih =>
    rw [rqK] at h
    cases hk : rqK w0 ts k with
    | none => rw [hk] at h; cases h
    | some x =>
      obtain ⟨f0, n0, p0⟩ := x
      rw [hk] at h
      simp only [] at h
      obtain ⟨i1, i2⟩ := ih hk
      split at h
      · simp only [Option.some.injEq, Prod.mk.injEq] at h
        obtain ⟨rfl, rfl, rfl⟩ := h
        simp; omega
      · split at h
        · simp only [Option.some.injEq, Prod.mk.injEq] at h
          obtain ⟨rfl, rfl, rfl⟩ := h
          simp; omega
        · cases h
theorem rqK_num {w0 : List UInt8} {ts : List (List UInt8)} {k : Nat} {f : List UInt8} {ns p : List Int} (h : rqK w0 ts k = some (f, ns, p)) (hr : 0 ≤ readL (ts.getD k [])) : rqK w0 ts (k + 1) = some (f ++ [32, 78], ns ++ [readL (ts.getD k [])], p) := by
  rw [rqK, h]; simp only []; rw [if_pos hr]
theorem rqK_pos {w0 : List UInt8} {ts : List (List UInt8)} {k : Nat} {f : List UInt8} {ns p q : List Int} (h : rqK w0 ts k = some (f, ns, p)) (hr : ¬ 0 ≤ readL (ts.getD k [])) (hq : prI (ts.getD k []) = some q) : rqK w0 ts (k + 1) = some (f ++ [32, 80], ns, q) := by
  rw [rqK, h]; simp only []; rw [if_neg hr, hq]
theorem rqK_none {w0 : List UInt8} {ts : List (List UInt8)} {k : Nat} {f : List UInt8} {ns p : List Int} (h : rqK w0 ts k = some (f, ns, p)) (hr : ¬ 0 ≤ readL (ts.getD k [])) (hq : prI (ts.getD k []) = none) : rqK w0 ts (k + 1) = none := by
  rw [rqK, h]; simp only []; rw [if_neg hr, hq]
theorem rqK_stays {w0 : List UInt8} {ts : List (List UInt8)} {k : Nat} (h : rqK w0 ts k = none) : ∀ j, k ≤ j → rqK w0 ts j = none := by
  intro j hj
  induction j with
  | zero => obtain rfl : k = 0 := by omega
            exact h
  | succ j ih =>
    rcases Nat.lt_or_ge j k with h1 | h1
    · obtain rfl : k = j + 1 := by omega
      exact h
    · rw [rqK, ih h1]
theorem splitRow_any (c : UInt8) (l : List UInt8) (w : World) (hG : Glob w) (hl : l.length ≤ 1048576) :
    Calls Tryz.prog 97 #[.string (sB l), .string { data := #[c] }] w fun (r : Ending) w' => ∃ b n, n = (splitL c l).length ∧ r = Ending.returned (.slice (some ⟨b, 0, none⟩) n n) ∧ b < w'.heap.size ∧ w.heap.size ≤ b ∧ (∀ j, j < n → w'.cell? ⟨b, j, none⟩ = some (.string (sB ((splitL c l).getD j [])))) ∧ Below w.heap.size w w' := by
  obtain ⟨m, hm⟩ := hG.max
  have h := Tryz.strings_Split (sB l) { data := #[c] } m w (by rw [sB_size]; omega) hm (Nat.le_refl 1)
  refine h.mono ?_
  rintro r w' ⟨rfl, rfl⟩
  have hn := countB_splR c l.length l (Nat.le_refl _)
  obtain ⟨k, hk⟩ : ∃ k, Lib.countB (sB l) { data := #[c] } = k := ⟨_, rfl⟩
  rw [hk] at hn ⊢
  have hd := Lib.splitB_data { data := #[c] } 0 k (sB l)
  rw [sB_list] at hd
  have hd2 : (Lib.splitB { data := #[c] } 0 k (sB l)).map (·.data.toList) = splitL c l := by
    rw [hd, splitL_eq]; exact splitK_splR k l (by omega)
  generalize Lib.splitB { data := #[c] } 0 k (sB l) = bs at hd2
  have hlen : bs.length = (splitL c l).length := by rw [← hd2, List.length_map]
  have hlk : k + 1 = (splitL c l).length := by rw [splitL_eq]; omega
  refine ⟨w.heap.size, k + 1, hlk, rfl, by simp, Nat.le_refl _, fun j hj => ?_, below_alloc (Below.refl _ w) _⟩
  rw [(Blk.new w _ _).cell]
  have hj2 : j < bs.length := by omega
  have hx : (splitL c l).getD j [] = bs[j].data.toList := by
    rw [← hd2]; simp [List.getD, hj2]
  rw [hx, sB_of]
  simp [hj2]
theorem own_set {ti : TypeId} {W : World} {g : Nat} {u : Value} {xs : List Int} (h : OwnI ti W (g + 1) u xs) (i : Nat) (y : Value) : OwnI ti (W.setCell ⟨g, i, none⟩ y) (g + 1) u xs := by
  have ht := (TurnedIn.refl g (g + 1) W).set_ ⟨g, i, none⟩ ⟨Nat.le_refl _, Nat.lt_succ_self _⟩ y
  exact h.turned ht (OwnI.blockLt h) (Or.inr (Nat.le_refl _))
structure RqW (w2 : World) (g : Nat) (w0 : List UInt8) (ts : List (List UInt8)) (k : Nat) (f : List UInt8) (ns p : List Int) (nv pv : Value) (wr : World) : Prop where
  rq : rqK w0 ts k = some (f, ns, p)
  box : Blk wr g 85 #[.string (sB f), nv, pv]
  num : OwnI 3 wr (g + 1) nv ns
  pos : ns = [] → OwnI 3 wr (g + 1) pv p
  shp : ∃ A n c, pv = .slice A n c
  bel : Below g w2 wr
theorem RqW.below {w2 : World} {g : Nat} {w0 : List UInt8} {ts : List (List UInt8)} {k : Nat} {f : List UInt8} {ns p : List Int} {nv pv : Value} {wr W : World} (h : RqW w2 g w0 ts k f ns p nv pv wr) (hb : Below wr.heap.size wr W) : RqW w2 g w0 ts k f ns p nv pv W :=
  ⟨h.rq, h.box.below hb h.box.lt, h.num.below hb, fun e => (h.pos e).below hb, h.shp, h.bel.trans (hb.mono (Nat.le_of_lt h.box.lt))⟩
set_option maxRecDepth 100000 in
set_option maxHeartbeats 1600000 in
theorem requestIn_any (l : List UInt8) (w : World) {a0 a1 : Addr} (hG : GlobD w a0 a1) (hl : l.length ≤ 3000) :
    Calls Tryz.prog 53 #[.string (sB l)] w fun (r : Ending) w' => ((rqK (w0D l) (tsD l) (tsD l).length = none ∧ r = .returned (.tuple #[.agg #[.string { data := #[] }, .slice none 0 0, .slice none 0 0], .iface 269 (.pointer (some a0))])) ∨
      ∃ f ns p nv pv, rqK (w0D l) (tsD l) (tsD l).length = some (f, ns, p) ∧ r = .returned (.tuple #[.agg #[.string (sB f), nv, pv], .nilIface]) ∧ Ints w' nv ns ∧ (ns = [] → OwnI 3 w' w.heap.size pv p) ∧ ∃ A n c, pv = .slice A n c) ∧ Below w.heap.size w w' := by
  have HG := hid hG
  clear hG
  have hlen := tsD_length l
  have h0 : (splitL 32 l).getD 0 [] = w0D l := rfl
  have HT := hid (fun k => tsD_getD l k)
  have HPart := hid (fun k => tsD_part l k)
  have hw0l : (w0D l).length ≤ 3000 := Nat.le_trans (splitL_part 32 l 0) hl
  have hnl := splitL_length 32 l
  obtain ⟨W0, hW0⟩ : ∃ x, w0D l = x := ⟨_, rfl⟩
  obtain ⟨ts, hTS⟩ : ∃ x, tsD l = x := ⟨_, rfl⟩
  rw [hW0] at h0 hw0l ⊢
  rw [hTS] at hlen HT HPart ⊢
  obtain ⟨m, hm⟩ : ∃ m, ts.length = m := ⟨_, rfl⟩
  have HM := hid hm
  rw [hm] at hlen ⊢
  have H0 := hid h0
  have HLen := hid (show m + 1 = (splitL 32 l).length from hlen)
  clear hW0 hTS hm h0 hlen
  have HR := hid (Blk.new w 85 #[.string { data := #[] }, .slice none 0 0, .slice none 0 0])
  have HB0 := hid (below_alloc (Below.refl w.heap.size w) (.cells #[.string { data := #[] }, .slice none 0 0, .slice none 0 0] 85))
  go_enter Tryz.func53, Tryz.ntmps53
  go_wp2_with fail
  refine (splitRow_any 32 l _ (HG.out.later HB0.out).glob (by omega)).mono ?_
  rintro e w1 ⟨b, n, hn, rfl, hbl, hbw, hcell, hb⟩
  have hb1 : w.heap.size + 1 ≤ b := by simpa using hbw
  have HR1 := hid (HR.out.below hb (by simp))
  have HB1 := hid (below_to HB0.out hb)
  obtain rfl : n = m + 1 := by rw [hn]; exact HLen.out.symm
  have hm3 : m ≤ 3000 := by have := HLen.out; omega
  have k0 : w1.cell? ⟨b, 0, none⟩ = some (.string (sB W0)) := by rw [← H0.out]; exact hcell 0 (by omega)
  have HC2 : Hid (∀ k, k < m → w1.cell? ⟨b, k + 1, none⟩ = some (.string (sB (ts.getD k [])))) := hid (fun k hk => by
    rw [HT.out k]; exact hcell (k + 1) (by omega))
  clear hb hbw hcell hn HR HB0 HT hnl H0 HLen
  have hmm : (((m + 1 : Nat) : Int)) = (m : Int) + 1 := by omega
  obtain ⟨g, hg⟩ : ∃ g, w1.heap.size = g := ⟨_, rfl⟩
  have hw1z : w.heap.size + 1 ≤ g := by rw [← hg]; have := HR1.out.lt; omega
  have hgz : w.heap.size < g := by omega
  have hbg : b < g := by rw [← hg]; exact hbl
  have HW2 := hid (show Blk (w1.alloc (.cells #[.string (sB W0), .slice none 0 0, .slice none 0 0] 85)) g 85 #[.string (sB W0), .slice none 0 0, .slice none 0 0] from Blk.newAt _ _ _ _ hg.symm)
  have HR2 := hid (HR1.out.alloc (.cells #[.string (sB W0), .slice none 0 0, .slice none 0 0] 85))
  have HB2 := hid (below_alloc HB1.out (.cells #[.string (sB W0), .slice none 0 0, .slice none 0 0] 85))
  have HC3 : Hid (∀ k, k < m → (w1.alloc (.cells #[.string (sB W0), .slice none 0 0, .slice none 0 0] 85)).cell? ⟨b, k + 1, none⟩ = some (.string (sB (ts.getD k [])))) := hid (fun k hk => cell_later (HC2.out k hk) (below_alloc (Below.refl _ w1) _))
  by_cases hm0 : m = 0
  · subst hm0
    go_wp2
    generalize (w1.alloc (.cells #[.string (sB W0), .slice none 0 0, .slice none 0 0] 85)) = w2 at HW2 HR2 HB2 HC3 ⊢
    have HE0 : Hid (RqW w2 g W0 ts 0 W0 [] [] (.slice none 0 0) (.slice none 0 0) w2) := hid ⟨rfl, HW2.out, OwnI.nil _ _ _, fun _ => OwnI.nil _ _ _, ⟨_, _, _, rfl⟩, Below.refl _ _⟩
    clear HC2 HR1 HB1 k0
    refine wp_loop_rounds 1 ?_
    rw [rounds_succ]
    have HRz := hid (show Blk w2 w.heap.size 85 #[.string { data := #[] }, .slice none 0 0, .slice none 0 0] from HR2.out)
    have r0 : w2.cell? ⟨g, 0, none⟩ = some (.string (sB W0)) := HE0.out.box.cell 0
    have r1 : w2.cell? ⟨g, 1, none⟩ = some (.slice none 0 0) := HE0.out.box.cell 1
    have r2 : w2.cell? ⟨g, 2, none⟩ = some (.slice none 0 0) := HE0.out.box.cell 2
    have z0 : w2.cell? ⟨w.heap.size, 0, none⟩ = some (.string { data := #[] }) := HRz.out.cell 0
    have z1 : w2.cell? ⟨w.heap.size, 1, none⟩ = some (.slice none 0 0) := HRz.out.cell 1
    have z2 : w2.cell? ⟨w.heap.size, 2, none⟩ = some (.slice none 0 0) := HRz.out.cell 2
    have y0 := HRz.out.frozen 0
    have y1 := HRz.out.frozen 1
    have y2 := HRz.out.frozen 2
    go_wp2
    refine bodyPost_ret (v := .tuple #[.agg #[.string (sB W0), .slice none 0 0, .slice none 0 0], .nilIface]) (by simp [results, Tryz.results53, go_sem, z0, z1, z2]) rfl ⟨.inr ⟨W0, [], [], _, _, HE0.out.rq, rfl, (OwnI.nil _ _ _ : OwnI 3 _ (g + 1) _ _).ints, fun _ => OwnI.nil _ _ _, _, _, _, rfl⟩, ?_⟩
    exact (((HB2.out).setCell (p := ⟨w.heap.size, 0, none⟩) (Nat.le_refl _) _).setCell (p := ⟨w.heap.size, 1, none⟩) (Nat.le_refl _) _).setCell (p := ⟨w.heap.size, 2, none⟩) (Nat.le_refl _) _
  · go_wp2
    generalize (w1.alloc (.cells #[.string (sB W0), .slice none 0 0, .slice none 0 0] 85)) = w2 at HW2 HR2 HB2 HC3 ⊢
    have HE0 : Hid (RqW w2 g W0 ts 0 W0 [] [] (.slice none 0 0) (.slice none 0 0) w2) := hid ⟨rfl, HW2.out, OwnI.nil _ _ _, fun _ => OwnI.nil _ _ _, ⟨_, _, _, rfl⟩, Below.refl _ _⟩
    clear HC2 HR1 HB1 k0
    go_loopw [21] (fun i wr => ∃ (k : Nat) (f : List UInt8) (ns p : List Int) (nv pv : Value), k ≤ m ∧ i = .int .i64 k ∧ RqW w2 g W0 ts k f ns p nv pv wr) (fun i _ => m - (intOf i).toNat)
    case atStart => exact ⟨0, _, _, _, _, _, Nat.zero_le _, rfl, HE0.out⟩
    case round =>
      obtain ⟨k, f, ns, p, nv, pv, hk, rfl, hR⟩ := hrel
      have HE := hid hR
      clear hR
      by_cases hlt : k < m
      · obtain ⟨t, ht⟩ : ∃ t, ts.getD k [] = t := ⟨_, rfl⟩
        have htl : t.length ≤ 3000 := by rw [← ht]; exact Nat.le_trans (HPart.out k) hl
        have kc : wr.cell? ⟨b, 1 + k, none⟩ = some (.string (sB t)) := by
          rw [Nat.add_comm 1 k, ← ht]
          exact (HE.out.bel.cell (p := ⟨b, k + 1, none⟩) hbg).trans (HC3.out k hlt)
        have HG2 := hid (HG.out.later (HB2.out.trans (HE.out.bel.mono (by omega))))
        have HTt := hid ht
        clear ht
        go_wp2_with fail
        clear kc
        refine (numberIn_any t _ HG2.out (by omega)).mono ?_
        rintro e w3 ⟨rfl, hb3⟩
        have HE3 := hid (HE.out.below hb3)
        clear hb3 HE
        obtain ⟨nA, nc, hnv, -⟩ := HE3.out.num.ints
        subst hnv
        obtain ⟨pA, pn, pc, hpv⟩ := HE3.out.shp
        subst hpv
        have hff := (rqK_form W0 ts k HE3.out.rq).1
        have hnn := (rqK_form W0 ts k HE3.out.rq).2
        have hg3 : g < w3.heap.size := HE3.out.box.lt
        have c0 : w3.cell? ⟨g, 0, none⟩ = some (.string (sB f)) := HE3.out.box.cell 0
        have c1 : w3.cell? ⟨g, 1, none⟩ = some (.slice nA ns.length nc) := HE3.out.box.cell 1
        have f0 := HE3.out.box.frozen 0
        have f1 := HE3.out.box.frozen 1
        by_cases hr : 0 ≤ readL t
        · obtain ⟨e1, e2⟩ := nm_yes (l := t) rfl hr
          rw [e1, e2]
          obtain ⟨x, hx⟩ : ∃ x, readL t = x := ⟨_, rfl⟩
          have HN := hid (rqK_num HE3.out.rq (by rw [HTt.out]; exact hr))
          rw [HTt.out, hx] at HN
          rw [hx]
          have hadd : ∀ W : World, (Op.stringOp .add (sB f) { data := #[32, 78] }).run Tryz.prog W = .ok (.string (sB (f ++ [32, 78]))) W := fun W => run_sB f [32, 78] (by simp; omega) W
          obtain ⟨f2, hf2⟩ : ∃ f2, f ++ [32, 78] = f2 := ⟨_, rfl⟩
          rw [hf2] at hadd HN
          have HB3 := hid (HE3.out.box.set_ 0 (.string (sB f2)))
          have HN3 := hid (own_set HE3.out.num 0 (.string (sB f2)))
          have HL3 := hid (HE3.out.bel.setCell (p := ⟨g, 0, none⟩) (Nat.le_refl _) (.string (sB f2)))
          have HZ3 := hid (show g + 1 ≤ (w3.setCell ⟨g, 0, none⟩ (.string (sB f2))).heap.size from Nat.succ_le_of_lt HB3.out.lt)
          clear e1 e2 hx hf2 hr
          go_upto_region 9 with (fail)
          generalize w3.setCell ⟨g, 0, none⟩ (.string (sB f2)) = w5 at HB3 HN3 HL3 HZ3 ⊢
          clear c0 c1 f0 f1 hadd
          have c1 : w5.cell? ⟨g, 1, none⟩ = some (.slice nA ns.length nc) := HB3.out.cell 1
          go_wp2_with (at_builtin; refine wpList_append_int rfl _ _ 22 3 rfl Tryz.underlying22 Tryz.info3 (g + 1) _ ns x rfl HN3.out rfl rfl (by omega) HZ3.out ?_; rintro q4 w4 ho4 hb4; obtain ⟨qA, qn, qc, rfl⟩ := ho4.shape3; have HB4 := hid (HB3.out.below hb4 (Nat.lt_succ_self _)); have d1 : w4.cell? ⟨g, 1, none⟩ = some (.slice nA ns.length nc) := HB4.out.cell 1; have d1f := HB4.out.frozen 1)
          go_roundw
          case rel =>
            refine ⟨k + 1, f2, ns ++ [x], p, .slice qA qn qc, .slice pA pn pc, by omega, by go_num, HN.out, HB4.out.set_ 1 _, own_set ho4 1 _, fun e => by simp at e, ⟨_, _, _, rfl⟩, ?_⟩
            exact (HL3.out.trans (hb4.mono (Nat.le_succ _))).setCell (p := ⟨g, 1, none⟩) (Nat.le_refl _) _
          case measure => simp [intOf] <;> omega
        · obtain ⟨e1, e2⟩ := nm_no hr
          rw [e1, e2]
          have HG3 := hid (HG.out.later (HB2.out.trans (HE3.out.bel.mono (by omega))))
          have hr' : ¬ 0 ≤ readL (ts.getD k []) := by rw [HTt.out]; exact hr
          have HNs := hid (fun (q : List Int) (h : prI t = some q) => rqK_pos HE3.out.rq hr' (by rw [HTt.out]; exact h))
          have HNn := hid (fun (h : prI t = none) => rqK_stays (rqK_none HE3.out.rq hr' (by rw [HTt.out]; exact h)) k.succ.succ (by omega))
          have HNo := hid (fun (h : prI t = none) => rqK_none HE3.out.rq hr' (by rw [HTt.out]; exact h))
          clear e1 e2 hr hr' c0 c1 f0 f1
          go_wp2_with fail
          refine (implParsePoset_any t _ HG3.out.glob (by omega)).mono ?_
          cases hq : prI t with
          | none =>
            rintro e w4 ⟨q, rfl, ho, hb4⟩
            have HX := hid (rqK_stays (HNo.out hq) m (by omega))
            have HE4 := hid (HE3.out.below hb4)
            have hE : w3.heap.size ≤ w4.heap.size := hb4.size
            obtain ⟨qA, qn, qc, rfl⟩ := ho.shape3
            clear ho hb4 HE3 HNs HNn HNo HG3 HG2
            have HE5 := hid (HE4.out.below (below_alloc (Below.refl _ w4) (.cells #[.slice qA qn qc] 28)))
            go_wp2
            generalize w4.alloc (.cells #[.slice qA qn qc] 28) = W at HE5 ⊢
            have HRz := hid (show Blk W w.heap.size 85 #[.string { data := #[] }, .slice none 0 0, .slice none 0 0] from (HE5.out.bel.block _ hgz).trans HR2.out)
            have z0 : W.cell? ⟨w.heap.size, 0, none⟩ = some (.string { data := #[] }) := HRz.out.cell 0
            have z1 : W.cell? ⟨w.heap.size, 1, none⟩ = some (.slice none 0 0) := HRz.out.cell 1
            have z2 : W.cell? ⟨w.heap.size, 2, none⟩ = some (.slice none 0 0) := HRz.out.cell 2
            have y0 := HRz.out.frozen 0
            have y1 := HRz.out.frozen 1
            have y2 := HRz.out.frozen 2
            have hBw : Below w.heap.size w W := HB2.out.trans (HE5.out.bel.mono (by omega))
            have g0 := (HG.out.later hBw).what
            have HBw := hid hBw
            clear hBw
            have hgl0 : 0 < w.heap.size := World.block_lt_of_cell? w _ HG.out.what
            have hgl1 : ¬ (w.heap.size = 0) := by omega
            have hgl2 : ¬ (0 = w.heap.size) := by omega
            go_region
            go_wp2
            refine bodyPost_ret (v := .tuple #[.agg #[.string { data := #[] }, .slice none 0 0, .slice none 0 0], .iface 269 (.pointer (some a0))]) (by simp [results, Tryz.results53, go_sem, z0, z1, z2]) rfl ⟨.inl ⟨HX.out, rfl⟩, ?_⟩
            exact below_drewN (((HBw.out.setCell (p := ⟨w.heap.size, 0, none⟩) (Nat.le_refl _) _).setCell (p := ⟨w.heap.size, 1, none⟩) (Nat.le_refl _) _).setCell (p := ⟨w.heap.size, 2, none⟩) (Nat.le_refl _) _) 1
          | some xq =>
            rintro e w4 ⟨q, rfl, ho, hb4⟩
            have HN := hid (HNs.out xq hq)
            have HE4 := hid (HE3.out.below hb4)
            have HO4 := hid (show OwnI 3 w4 (g + 1) q xq from ho.mono (Nat.succ_le_of_lt HE3.out.box.lt))
            obtain ⟨qA, qn, qc, rfl⟩ := ho.shape3
            clear ho hb4 HE3 HNs HNn HNo HG3 HG2
            have hadd : ∀ W : World, (Op.stringOp .add (sB f) { data := #[32, 80] }).run Tryz.prog W = .ok (.string (sB (f ++ [32, 80]))) W := fun W => run_sB f [32, 80] (by simp; omega) W
            obtain ⟨f2, hf2⟩ : ∃ f2, f ++ [32, 80] = f2 := ⟨_, rfl⟩
            rw [hf2] at hadd HN
            clear hf2
            have HE5 := hid (HE4.out.below (below_alloc (Below.refl _ w4) (.cells #[.slice qA qn qc] 28)))
            have HO5 := hid (HO4.out.alloc (.cells #[.slice qA qn qc] 28))
            have HA5 := hid (Blk.new w4 28 #[.slice qA qn qc])
            have hg4 : g < w4.heap.size := HE4.out.box.lt
            obtain ⟨a, ha⟩ : ∃ a, w4.heap.size = a := ⟨_, rfl⟩
            rw [ha] at HA5 hg4
            have c0 : (w4.alloc (.cells #[.slice qA qn qc] 28)).cell? ⟨g, 0, none⟩ = some (.string (sB f)) := HE5.out.box.cell 0
            go_upto_region 12 with (fail)
            generalize w4.alloc (.cells #[.slice qA qn qc] 28) = W at HE5 HO5 HA5 c0 ⊢
            have f0 := HE5.out.box.frozen 0
            have c2 : W.cell? ⟨g, 2, none⟩ = some (.slice pA pn pc) := HE5.out.box.cell 2
            have f2' := HE5.out.box.frozen 2
            have p0 : W.cell? ⟨a, 0, none⟩ = some (.slice qA qn qc) := HA5.out.cell 0
            have hag : ¬ a = g := by omega
            have hga : ¬ g = a := by omega
            go_wp2
            go_roundw
            case rel =>
              exact ⟨k + 1, f2, ns, xq, .slice nA ns.length nc, .slice qA qn qc, by omega, by go_num, HN.out, (HE5.out.box.set_ 0 _).set_ 2 _, own_set (own_set HE5.out.num 0 _) 2 _, fun _ => own_set (own_set HO5.out 0 _) 2 _, ⟨_, _, _, rfl⟩, (HE5.out.bel.setCell (p := ⟨g, 0, none⟩) (Nat.le_refl _) _).setCell (p := ⟨g, 2, none⟩) (Nat.le_refl _) _⟩
            case measure => simp [intOf] <;> omega
      · obtain rfl : k = m := by omega
        obtain ⟨nA, nc, hnv, -⟩ := HE.out.num.ints
        subst hnv
        obtain ⟨pA, pn, pc, hpv⟩ := HE.out.shp
        subst hpv
        have HRz := hid (show Blk wr w.heap.size 85 #[.string { data := #[] }, .slice none 0 0, .slice none 0 0] from (HE.out.bel.block _ hgz).trans HR2.out)
        have r0 : wr.cell? ⟨g, 0, none⟩ = some (.string (sB f)) := HE.out.box.cell 0
        have r1 : wr.cell? ⟨g, 1, none⟩ = some (.slice nA ns.length nc) := HE.out.box.cell 1
        have r2 : wr.cell? ⟨g, 2, none⟩ = some (.slice pA pn pc) := HE.out.box.cell 2
        have z0 : wr.cell? ⟨w.heap.size, 0, none⟩ = some (.string { data := #[] }) := HRz.out.cell 0
        have z1 : wr.cell? ⟨w.heap.size, 1, none⟩ = some (.slice none 0 0) := HRz.out.cell 1
        have z2 : wr.cell? ⟨w.heap.size, 2, none⟩ = some (.slice none 0 0) := HRz.out.cell 2
        have y0 := HRz.out.frozen 0
        have y1 := HRz.out.frozen 1
        have y2 := HRz.out.frozen 2
        go_wp2
        have HT := (((TurnedIn.refl w.heap.size (w.heap.size + 1) wr).set_ ⟨w.heap.size, 0, none⟩ ⟨Nat.le_refl _, Nat.lt_succ_self _⟩ (.string (sB f))).set_ ⟨w.heap.size, 1, none⟩ ⟨Nat.le_refl _, Nat.lt_succ_self _⟩ (.slice nA ns.length nc)).set_ ⟨w.heap.size, 2, none⟩ ⟨Nat.le_refl _, Nat.lt_succ_self _⟩ (.slice pA pn pc)
        refine bodyPost_ret (v := .tuple #[.agg #[.string (sB f), .slice nA ns.length nc, .slice pA pn pc], .nilIface]) (by simp [results, Tryz.results53, go_sem, z0, z1, z2]) rfl ⟨.inr ⟨f, ns, p, _, _, HE.out.rq, rfl, (HE.out.num.turned HT (OwnI.blockLt HE.out.num) (Or.inr (by omega))).ints, fun e => ((HE.out.pos e).turned HT (OwnI.blockLt (HE.out.pos e)) (Or.inr (by omega))).mono (by omega), _, _, _, rfl⟩, ?_⟩
        exact (((HB2.out.trans (HE.out.bel.mono (by omega))).setCell (p := ⟨w.heap.size, 0, none⟩) (Nat.le_refl _) _).setCell (p := ⟨w.heap.size, 1, none⟩) (Nat.le_refl _) _).setCell (p := ⟨w.heap.size, 2, none⟩) (Nat.le_refl _) _
end Go.Proofs.YtbmhaamenjhjfaaGreatDoor
