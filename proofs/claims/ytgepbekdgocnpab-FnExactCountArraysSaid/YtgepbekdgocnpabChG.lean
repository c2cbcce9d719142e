/- Chains led on by the program, counted in numbers. -/
import Derived.Test.YtgepbekdgocnpabChI
import Derived.Test.YtgepbekdgocnpabChJ
namespace Go.Proofs.Ytgepbekdgocnpab
open Go.RowKit Go.WideShapes Go.ChangeShapes
set_option linter.unusedVariables false

theorem OwnI.cut0 {e : TypeId} {w : World} {B n c : Nat} {A : Option Addr} {xs : List Int} (h : OwnI e w B (.slice A n c) xs) : OwnI e w B (.slice A 0 c) [] := by
  rcases h.2 with ⟨h1, h2⟩ | ⟨g, cap, cur, h1, hB, hh, r1, r2, r3, r4⟩
  · injection h1 with e1 e2 e3
    subst e1; subst e3
    exact OwnI.nil _ _ _
  · injection h1 with e1 e2 e3
    subst e1; subst e3
    exact ⟨rfl, .inr ⟨g, c, cur, rfl, hB, hh, Nat.zero_le _, r2, r3, by simp⟩⟩
/-- the counts after one more step -/
def nxN (st : Nat → Nat → Bool) (c : Nat → Nat) (i : Nat) : Nat := sumR (fun j => if st j i then c j else 0) (i + 1)
/-- the places on which i may follow -/
def plN (st : Nat → Nat → Bool) (i : Nat) : List Nat := (List.range (i + 1)).filter fun j => st j i
theorem plN_sum (st : Nat → Nat → Bool) (c : Nat → Nat) (i : Nat) : ((plN st i).map c).sum = nxN st c i := sum_filter c (fun j => st j i) (i + 1)
theorem plN_length (st : Nat → Nat → Bool) (i : Nat) : (plN st i).length ≤ i + 1 := by
  have := List.length_filter_le (fun j => st j i) (List.range (i + 1))
  rwa [List.length_range] at this
theorem plN_lt {st : Nat → Nat → Bool} {i q : Nat} (h : q < (plN st i).length) : (plN st i).getD q 0 < i + 1 := by
  have := List.mem_filter.1 (List.getElem_mem h)
  simp only [List.getD, List.getElem?_eq_getElem h, Option.getD_some]
  exact List.mem_range.1 this.1
def rowsSt (st : Nat → Nat → Bool) (n : Nat) : List (List Int) := rowsN (fun i => setsL (fun j => st j i) (i + 1)) n
theorem rowsSt_len (st : Nat → Nat → Bool) (n : Nat) : (rowsSt st n).length = n := rowsN_length _ _
theorem rowsSt_at {st : Nat → Nat → Bool} {n i : Nat} (h : i < n) : (rowsSt st n).getD i [] = (plN st i).map fun x : Nat => (x : Int) := rowsN_getD _ h
theorem partsSnoc (c : Nat → Nat) (l : List Nat) {q : Nat} (hq : q < l.length) : ((l.take (q + 1)).map c).map (fun x : Nat => (x : Int)) = ((l.take q).map c).map (fun x : Nat => (x : Int)) ++ [((c (l.getD q 0) : Nat) : Int)] := by
  rw [List.take_succ_eq_append_getElem hq, List.map_append, List.map_append]
  simp only [List.getD, List.getElem?_eq_getElem hq, Option.getD_some, List.map_cons, List.map_nil]
set_option maxRecDepth 100000 in
set_option maxHeartbeats 3200000 in
theorem growI_any (P fb n : Nat) (vi vb : Value) (ids : List Int) (st : Nat → Nat → Bool) (c : Nat → Nat) (w : World)
    (h : ChJ 82 w P fb vi vb (.func (.func 73) #[] #[]) ids (rowsSt st n) (mkL n c)) (hn1 : 1 ≤ n) (hn : n ≤ 1024) (hs : ∀ i, i < n → nxN st c i ≤ 1000000000000000) :
    Calls Try.prog 74 #[.pointer (some ⟨P, 0, none⟩)] w fun (r : Ending) w' => r = Ending.returned (.tuple #[]) ∧ ChJ 82 w' P fb vi vb (.func (.func 73) #[] #[]) ids (rowsSt st n) (mkL n (nxN st c)) ∧ Below P w w' ∧ Kp P w w' := by
  have HCh := hid h
  obtain ⟨vc, hP, hI, hB, hC⟩ := h.here
  obtain ⟨bA, bc, rfl, hrows⟩ := hB
  obtain ⟨cA, cc, rfl, hcells⟩ := hC
  rw [rowsSt_len] at hrows
  rw [mkL_length] at hP hcells
  rw [rowsSt_len] at hP HCh ⊢
  obtain ⟨cb, co, rfl, hcl, hcc⟩ := hcells (by intro h; have := congrArg List.length h; rw [mkL_length, List.length_nil] at this; omega)
  have HRows := hid hrows
  have HCc := hid (fun j (hj : j < n) => show w.cell? ⟨cb, co + j, none⟩ = some (.int .i64 ((c j : Nat) : Int)) by rw [hcc j hj, mkL_getD hj])
  have HP := hid hP
  have HS := hid hs
  have hmk := run_make_row' (P := Try.prog) 22 3 (.int .i64 0) 8 Try.underlying22 Try.info3 rfl .i64 .i64 n (by omega) (by omega)
  have hp1 : w.cell? ⟨P, 1, none⟩ = some (.slice bA n bc) := by rw [hP.cell]; rfl
  have hp2 : w.cell? ⟨P, 2, none⟩ = some (.slice (some ⟨cb, co, none⟩) n cc) := by rw [hP.cell]; rfl
  have hPl := hP.lt
  clear hrows hcells hcc hs hI hP h
  go_enter Try.func74, Try.ntmps74
  go_wp2
  clear hmk hp1 hp2
  rw [Vals_made]
  obtain ⟨g, hg⟩ : ∃ g, w.heap.size = g := ⟨_, rfl⟩
  have HGe := hid hg
  have HK0 : Hid (Blk (w.alloc (.cells (Vals (List.replicate n 0)) 3)) g 3 (Vals (mkL n fun i => if i < 0 then nxN st c i else 0))) := hid (by
    rw [show (mkL n fun i => if i < 0 then nxN st c i else 0) = List.replicate n 0 from mkL_zero n]
    exact Blk.newAt _ _ _ _ hg.symm)
  have HB0 : Hid (Below g w (w.alloc (.cells (Vals (List.replicate n 0)) 3)) ∧ g + 1 ≤ (w.alloc (.cells (Vals (List.replicate n 0)) 3)).heap.size) := hid ⟨by rw [← hg]; exact below_alloc (Below.refl _ w) _, by simp [hg]⟩
  rw [hg] at hPl hcl ⊢
  clear hg
  go_loopw [3, 19] (fun p i wr => ∃ (t : Nat) (ls : List Int), t ≤ n ∧ i = .int .i64 t ∧ OwnI 3 wr (g + 1) p ls ∧ Blk wr g 3 (Vals (mkL n fun i => if i < t then nxN st c i else 0)) ∧ Below g w wr ∧ g + 1 ≤ wr.heap.size) (fun _ i _ => n - (intOf i).toNat)
  case atStart => exact ⟨0, [], Nat.zero_le _, rfl, OwnI.nil _ _ _, HK0.out, HB0.out.1, HB0.out.2⟩
  case round =>
    obtain ⟨i, ls, hi, rfl, hp, hk, hb, hz⟩ := hrel
    obtain ⟨pA, pn, pc, rfl⟩ := hp.shape3
    have HPt := hid hp.cut0
    have HK := hid hk
    have HB := hid hb
    clear hp hk hb
    by_cases hin : i < n
    · have hBw : Below w.heap.size w wr := by rw [HGe.out]; exact HB.out
      obtain ⟨rb, ro, ru, rfl, hrl, hrc, hri⟩ := HRows.out i hin
      have hrc2 := (hBw.cell (p := ⟨rb, ro + i, none⟩) hrl).trans hrc
      rw [rowsSt_at hin] at hri
      have hPlen := plN_length st i
      have HPs := hid (plN_sum st c i)
      have HPl := hid (fun q (hq : q < (plN st i).length) => plN_lt hq)
      have hsm := HS.out i hin
      obtain ⟨I, hIe⟩ : ∃ I, plN st i = I := ⟨_, rfl⟩
      rw [hIe] at hri HPs HPl hPlen
      obtain ⟨ua, uc, rfl, hua⟩ := hri
      rw [List.length_map] at hrc2
      have HUa := hid hua
      rw [List.length_map] at HUa
      clear hrc hIe hBw hua
      have hPb : Below w.heap.size w wr := by rw [HGe.out]; exact HB.out
      have HPw := hid (HP.out.below hPb HP.out.lt)
      have HCw := hid (fun j (hj : j < n) => (hPb.cell (p := ⟨cb, co + j, none⟩) (by rw [HGe.out]; exact hcl)).trans (HCc.out j hj))
      have hp3 : wr.cell? ⟨P, 3, none⟩ = some (.func (.func 73) #[] #[]) := by rw [HPw.out.cell]; rfl
      obtain ⟨W1, hW1⟩ : ∃ x, x = wr := ⟨wr, rfl⟩
      rw [← hW1] at HPt HK HB HPw HCw hrc2 hp3 hz ⊢
      clear hW1 hPb
      go_wp2
      clear hrc2 hp3
      go_loopw [3, 28] (fun p j wr => ∃ t : Nat, t ≤ I.length ∧ j = .int .i64 t ∧ OwnI 3 wr (g + 1) p (((I.take t).map c).map fun x : Nat => (x : Int)) ∧ Below (g + 1) W1 wr) (fun _ i _ => I.length - (intOf i).toNat)
      case atStart => exact ⟨0, Nat.zero_le _, rfl, HPt.out, Below.refl _ _⟩
      case round =>
        obtain ⟨t, ht, rfl, hp, hb⟩ := hrel
        obtain ⟨qA, qn, qc, rfl⟩ := hp.shape3
        have HPq := hid hp
        have HBq := hid hb
        have hzq := Nat.le_trans hz hb.size
        clear hp hb
        by_cases htl : t < I.length
        · have hne : (I.map fun x : Nat => (x : Int)) ≠ [] := by intro h; have := congrArg List.length h; rw [List.length_map, List.length_nil] at this; omega
          obtain ⟨ub, uo, rfl, hul, huc⟩ := HUa.out hne
          have hbw := HB.out.trans (HBq.out.mono (Nat.le_succ g))
          have hcu := (hbw.cell (p := ⟨ub, uo + t, none⟩) (by rw [HGe.out] at hul; exact hul)).trans (huc t htl)
          have e : (I.map fun x : Nat => (x : Int)).getD t 0 = ((I.getD t 0 : Nat) : Int) := by simp [List.getD, htl]
          rw [e] at hcu
          have hjl := HPl.out t htl
          have HSn := hid (partsSnoc c I htl)
          obtain ⟨j, hj⟩ : ∃ j, I.getD t 0 = j := ⟨_, rfl⟩
          rw [hj] at hcu hjl HSn
          have hjn : j < n := by omega
          have hcj := (HBq.out.cell (p := ⟨cb, co + j, none⟩) (by show cb < g + 1; omega)).trans (HCw.out j hjn)
          have hp2 : wr.cell? ⟨P, 2, none⟩ = some (.slice (some ⟨cb, co, none⟩) n cc) := by rw [(HPw.out.below HBq.out (by omega)).cell]; rfl
          have hlen : (((I.take t).map c).map fun x : Nat => (x : Int)).length < 1048576 := by rw [List.length_map, List.length_map, List.length_take]; omega
          have HLen := hid hlen
          obtain ⟨y, hy⟩ : ∃ y, c j = y := ⟨_, rfl⟩
          rw [hy] at hcj HSn
          clear huc hbw e hj hne hlen hy
          go_wp2_with (at_builtin; refine wpList_append_int rfl _ _ 22 3 rfl Try.underlying22 Try.info3 (g + 1) _ _ ((y : Nat) : Int) rfl HPq.out rfl rfl HLen.out hzq ?_; rintro q2 w3 ho3 hb3)
          go_roundw
          case rel => exact ⟨t + 1, by omega, by go_num, by rw [HSn.out]; exact ho3, HBq.out.trans hb3⟩
          case measure => simp [intOf]; omega
        · have htI : t = I.length := by omega
          have HPz : Hid (OwnI 3 wr (g + 1) (.slice qA qn qc) ((I.map c).map fun x : Nat => (x : Int))) := hid (by have h := HPq.out; rw [htI, List.take_length] at h; exact h)
          have hp3 : wr.cell? ⟨P, 3, none⟩ = some (.func (.func 73) #[] #[]) := by rw [(HPw.out.below HBq.out (by omega)).cell]; rfl
          have HT := hid (total_any (.slice qA qn qc) (I.map c) wr HPz.out.ints (by rw [List.length_map]; omega) (by rw [HPs.out]; exact hsm))
          rw [HPs.out] at HT
          obtain ⟨z, hz'⟩ : ∃ z, nxN st c i = z := ⟨_, rfl⟩
          have HZ := hid hz'
          rw [hz'] at HT
          have HK2 := hid (HK.out.below HBq.out (Nat.lt_succ_self g))
          have hcg : wr.cell? ⟨g, i, none⟩ = some (.int .i64 0) := by
            rw [HK2.out.cell, Vals_get (by rw [mkL_length]; exact hin), mkL_getD hin, if_neg (Nat.lt_irrefl i)]; rfl
          have hfz := HK2.out.frozen i
          clear hz' hsm htl
          go_wp2_with fail
          with_reducible refine HT.out.mono ?_
          rintro e w5 ⟨rfl, rfl⟩
          clear hp3
          go_wp2
          go_roundw
          case rel => exact ⟨i + 1, _, by omega, by go_num, HPz.out.grown (grown_setCell (World.grownBy.refl _ _) i (.int .i64 ((z : Nat) : Int))) (HPz.out.apart (.inl (Nat.lt_succ_self g))), (by
            rw [mkL_upd (g := fun r => if r < i then nxN st c r else 0) (h := fun r => if r < i + 1 then nxN st c r else 0) z hin (fun r hr => by
              by_cases e : r = i
              · subst e; rw [if_pos (by omega), if_pos rfl, HZ.out]
              · rw [if_neg e]
                by_cases e2 : r < i
                · rw [if_pos (by omega), if_pos e2]
                · rw [if_neg (by omega), if_neg e2]), ← Vals_set]
            exact HK2.out.set_ i (.int .i64 ((z : Nat) : Int))), (HB.out.trans (HBq.out.mono (Nat.le_succ g))).setCell (p := ⟨g, i, none⟩) (Nat.le_refl _) _, by simpa [World.setCell] using hzq⟩
          case measure => simp [intOf]; omega
    · have hin' : i = n := by omega
      subst hin'
      have hPb : Below w.heap.size w wr := by rw [HGe.out]; exact HB.out
      have HPw := hid (HP.out.below hPb HP.out.lt)
      have hp2 : wr.cell? ⟨P, 2, none⟩ = some (.slice (some ⟨cb, co, none⟩) i cc) := by rw [HPw.out.cell]; rfl
      have hf2 := HPw.out.frozen 2
      have e : (mkL i fun r => if r < i then nxN st c r else 0) = mkL i (nxN st c) := mkL_congr fun r hr => by rw [if_pos hr]
      have HKf := HK.out
      rw [e] at HKf
      have HRes := hid (HCh.out.put (n := i) (c := i) hPb HKf (by rw [HGe.out]; exact Nat.le_refl _) (mkL_length _ _).symm)
      have HBf := hid (HB.out.mono (Nat.le_of_lt hPl))
      have HKf2 := hid (Kp.of_below (P := P) hPb)
      clear e HKf hPb
      go_wp2
      go_end0
      exact ⟨rfl, HRes.out, HBf.out.setCell (p := ⟨P, 2, none⟩) (Nat.le_refl _) _, HKf2.out.set_ 2 _⟩
end Go.Proofs.Ytgepbekdgocnpab
