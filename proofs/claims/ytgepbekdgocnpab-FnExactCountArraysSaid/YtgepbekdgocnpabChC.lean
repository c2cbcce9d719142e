/- Chains begun by the program. -/
import Derived.Test.YtgepbekdgocnpabChI
import Derived.Test.YtgepbekdgocnpabChW
import Derived.Test.YtgepbekdgocnpabNest2
import Derived.Deep.RegionWith
namespace Go.Proofs.Ytgepbekdgocnpab
open Go.RowKit Go.WideShapes Go.ChangeShapes
set_option linter.unusedVariables false

def rowCh (xs : List Int) (st : Nat → Nat → Bool) (i : Nat) : List Int := setsL (fun j => st (idA xs j) (idA xs i)) (i + 1)
def blCh (xs : List Int) (st : Nat → Nat → Bool) : List (List Int) := rowsN (rowCh xs st) (idN xs).length
def c0 (xs : List Int) : List Int := mkL (idN xs).length fun i => if i = 0 then 1 else 0
/-- the rows while the i-th one has been asked k places -/
def rwF (xs : List Int) (st : Nat → Nat → Bool) (i k r : Nat) : List Int := if r < i then rowCh xs st r else if r = i then setsL (fun j => st (idA xs j) (idA xs i)) k else []
theorem rowsN_congr {f g : Nat → List Int} {m : Nat} (h : ∀ r, r < m → f r = g r) : rowsN f m = rowsN g m := by
  apply List.map_congr_left
  intro c hc
  exact h c (List.mem_range.1 hc)
theorem rowsN_set {f g : Nat → List Int} {m r : Nat} {l : List Int} (hr : r < m) (h : ∀ i, i < m → g i = if i = r then l else f i) : (rowsN f m).set r l = rowsN g m := by
  apply List.ext_getElem?
  intro i
  rw [List.getElem?_set, rowsN_length]
  simp only [rowsN, List.getElem?_map]
  by_cases hi : i < m
  · have := h i hi
    by_cases e : r = i
    · subst e; rw [if_pos rfl] at this; simp [hi, this]
    · rw [if_neg (fun h => e h.symm)] at this; simp [e, hi, this]
  · simp [hi]
    intro e; omega
theorem rwF_start (xs : List Int) (st : Nat → Nat → Bool) (n : Nat) : rowsN (rwF xs st 0 0) n = rowsN (fun _ => []) n := rowsN_congr fun r _ => by
  unfold rwF; rw [if_neg (Nat.not_lt_zero r)]; split <;> rfl
theorem rwF_next (xs : List Int) (st : Nat → Nat → Bool) (n i : Nat) : rowsN (rwF xs st i (i + 1)) n = rowsN (rwF xs st (i + 1) 0) n := rowsN_congr fun r _ => by
  unfold rwF
  by_cases e : r < i
  · rw [if_pos e, if_pos (by omega)]
  · rw [if_neg e]
    by_cases e2 : r = i
    · subst e2; rw [if_pos rfl, if_pos (by omega)]; rfl
    · rw [if_neg e2, if_neg (by omega)]; split <;> rfl
theorem rwF_no {xs : List Int} {st : Nat → Nat → Bool} {n i k : Nat} (h : st (idA xs k) (idA xs i) = false) : rowsN (rwF xs st i (k + 1)) n = rowsN (rwF xs st i k) n := rowsN_congr fun r _ => by
  unfold rwF; rw [setsL_no (f := fun j => st (idA xs j) (idA xs i)) h]
theorem rwF_at {xs : List Int} {st : Nat → Nat → Bool} {n i k : Nat} (hi : i < n) : (rowsN (rwF xs st i k) n).getD i [] = setsL (fun j => st (idA xs j) (idA xs i)) k := by
  rw [rowsN_getD _ hi]; unfold rwF; rw [if_neg (Nat.lt_irrefl i), if_pos rfl]
theorem rwF_yes {xs : List Int} {st : Nat → Nat → Bool} {n i k : Nat} (hi : i < n) (h : st (idA xs k) (idA xs i) = true) :
    (rowsN (rwF xs st i k) n).set i (setsL (fun j => st (idA xs j) (idA xs i)) k ++ [(k : Int)]) = rowsN (rwF xs st i (k + 1)) n := rowsN_set hi fun r _ => by
  by_cases e : r = i
  · subst e; rw [if_pos rfl]; unfold rwF; rw [if_neg (Nat.lt_irrefl _), if_pos rfl, setsL_yes (f := fun j => st (idA xs j) (idA xs r)) h]
  · rw [if_neg e]; unfold rwF; rw [if_neg e, if_neg e]
theorem rwF_full (xs : List Int) (st : Nat → Nat → Bool) (n : Nat) : rowsN (rwF xs st n 0) n = rowsN (rowCh xs st) n := rowsN_congr fun r hr => by
  unfold rwF; rw [if_pos hr]
set_option maxRecDepth 100000 in
set_option maxHeartbeats 6400000 in
theorem chainsWk_any (v : Value) (xs : List Int) (w : World) (hv : Ints w v xs) (hg : good xs = true) :
    Calls Try.prog 72 #[.agg #[v], .func (.func 61) #[] #[], .int .i64 1, .func (.func 73) #[] #[]] w fun (r : Ending) w' => ∃ P vi vb, r = Ending.returned (.pointer (some ⟨P, 0, none⟩)) ∧ w.heap.size ≤ P ∧
      ChI 82 w' P vi vb (.func (.func 73) #[] #[]) (setsL (holdsIdeal xs) (2 ^ xs.length)) (blCh xs wk) (c0 xs) ∧ Below w.heap.size w w' := by
  have HG := hid hg
  have HV := hid hv
  have HSt := hid (fun s t W (hW : Below w.heap.size w W) (hs : s < 1024) (ht : t < 1024) => isPartC_any s t W hs ht)
  have hp2 := two_pow_le xs.length (good_length hg).2
  have HIds := hid (fun W hW => setsI_any v xs W hW hg)
  have hn1 := idN_pos xs
  have hn2 := idN_le hg
  have HAt := hid (fun j (hj : j < (idN xs).length) => show idA xs j < 1024 by have := (idA_mem hj).1; omega)
  have HGet := hid (fun j (hj : j < (idN xs).length) => idN_getD hj)
  have HLen := hid (idN_len xs)
  have HBl : Hid (blCh xs wk = rowsN (rowCh xs wk) (idN xs).length) := hid rfl
  have HC0 : Hid (c0 xs = mkL (idN xs).length fun i => if i = 0 then 1 else 0) := hid rfl
  obtain ⟨n, hnn⟩ : ∃ n, (idN xs).length = n := ⟨_, rfl⟩
  rw [hnn] at hn1 hn2 HAt HGet HLen HBl HC0
  have hmk1 := run_make_row' (P := Try.prog) 42 22 (.slice none 0 0) 24 Try.underlying42 Try.info22 rfl .i64 .i64 n (by omega) (by omega)
  have hmk2 := run_make_row' (P := Try.prog) 22 3 (.int .i64 0) 8 Try.underlying22 Try.info3 rfl .i64 .i64 n (by omega) (by omega)
  have HSmk := hid (fun a k => rowsN_length (rwF xs wk a k) n)
  clear hg hp2 hnn hv 
  go_enter Try.func72, Try.ntmps72
  have HB := hid (below_alloc (Below.refl _ w) (.cells #[v] 28))
  have A0 := hid (At.newAt w v 28 w.heap.size (by simp))
  go_wp2_with fail
  refine (HIds.out _ (HV.out.below HB.out)).mono ?_
  rintro e w' ⟨u, rfl, ho, hb⟩
  replace HB := hid (below_to HB.out hb)
  replace A0 := hid (A0.out.below hb)
  clear hb
  obtain ⟨uA, uc, rfl, hA2⟩ := ho.ints
  rw [HLen.out]
  have HO := hid ho
  have hcap := ho.capH
  rw [HLen.out] at HO hcap
  obtain ⟨g2, o2, rfl, hbl2, hc2⟩ := hA2 (by intro h; have := congrArg List.length h; rw [HLen.out, List.length_nil] at this; omega)
  have HCI := hid (fun j (hj : j < n) => show w'.cell? ⟨g2, o2 + j, none⟩ = some (.int .i64 ((idA xs j : Nat) : Int)) by rw [hc2 j (by rw [HLen.out]; exact hj), HGet.out j hj])
  have hwz : w.heap.size ≤ w'.heap.size := HB.out.size
  clear hA2 hc2 ho
  go_wp2
  go_region
  all_goals go_wp2
  all_goals clear hmk1 hmk2
  all_goals rw [Vals_made]
  · obtain ⟨W0, hW0⟩ : ∃ W0, W0 = (((w'.alloc (.cells (madeCells #[.slice none 0 0] n) 22)).alloc (.cells (Vals (List.replicate n 0)) 3)).alloc (.cells #[.slice (some ⟨g2, o2, none⟩) n uc, .slice (some ⟨w'.heap.size, 0, none⟩) n n, .slice (some ⟨w'.heap.size + 1, 0, none⟩) n n, .func (.func 73) #[] #[]] 82)) := ⟨_, rfl⟩
    have HR : Hid (RowsB 3 22 W0 w'.heap.size (w'.heap.size + 2 + 1) (rowsN (fun _ => []) n)) := hid (by
      rw [hW0]; exact ((RowsB.made 3 22 w' n (w'.heap.size + 2 + 1) (by omega)).alloc _).alloc _)
    have HKc : Hid (Blk W0 (w'.heap.size + 1) 3 (Vals (List.replicate n 0))) := hid (by
      rw [hW0]; exact (Blk.newAt _ _ _ _ (by simp)).alloc _)
    have HKp : Hid (Blk W0 (w'.heap.size + 2) 82 #[.slice (some ⟨g2, o2, none⟩) n uc, .slice (some ⟨w'.heap.size, 0, none⟩) n n, .slice (some ⟨w'.heap.size + 1, 0, none⟩) n n, .func (.func 73) #[] #[]]) := hid (by
      rw [hW0]; exact Blk.newAt _ _ _ _ (by simp))
    have HW0 : Hid (Below w'.heap.size w' W0 ∧ W0.heap.size = w'.heap.size + 2 + 1) := hid (by
      rw [hW0]; exact ⟨below_alloc (below_alloc (below_alloc (Below.refl _ w') _) _) _, by simp⟩)
    rw [← hW0]
    clear hW0
    obtain ⟨q, hq⟩ : ∃ q, w'.heap.size = q := ⟨_, rfl⟩
    obtain ⟨cb, hcb⟩ : ∃ cb, w'.heap.size + 1 = cb := ⟨_, rfl⟩
    obtain ⟨P, hP⟩ : ∃ P, w'.heap.size + 2 = P := ⟨_, rfl⟩
    have hP' : w'.heap.size + 1 + 1 = P := hP
    rw [hP']
    rw [hP] at HKp HR HW0
    rw [hcb] at HKc HKp ⊢
    rw [hq] at HKp HR ⊢
    have hqP : q < P ∧ cb < P ∧ q ≠ cb ∧ w'.heap.size ≤ q ∧ w'.heap.size ≤ cb ∧ w'.heap.size ≤ P := by omega
    clear hq hcb hP
    obtain ⟨hq1, hq2, hq3, hq4, hq5, hq6⟩ := hqP
    have hW0z : P + 1 ≤ W0.heap.size := Nat.le_of_eq HW0.out.2.symm
    go_loopw [29] (fun i wr => ∃ t : Nat, t ≤ n ∧ i = .int .i64 t ∧ RowsB 3 22 wr q (P + 1) (rowsN (rwF xs wk t 0) n) ∧ Blk wr cb 3 (Vals (List.replicate n 0)) ∧ Blk wr P 82 #[.slice (some ⟨g2, o2, none⟩) n uc, .slice (some ⟨q, 0, none⟩) n n, .slice (some ⟨cb, 0, none⟩) n n, .func (.func 73) #[] #[]] ∧ Below w'.heap.size w' wr ∧ P + 1 ≤ wr.heap.size) (fun i _ => n - (intOf i).toNat)
    case atStart => exact ⟨0, Nat.zero_le _, rfl, by rw [rwF_start]; exact HR.out, HKc.out, HKp.out, below_drewN HW0.out.1 1, hW0z⟩
    case round =>
      obtain ⟨i, hi, rfl, hr1, hk1, hk2, hb1, hz1⟩ := hrel
      have HR1 := hid hr1
      have HC1 := hid hk1
      have HP1 := hid hk2
      have HB1 := hid hb1
      clear hr1 hk1 hk2 hb1
      by_cases hin : i < n
      · have hci := (HB1.out.cell (p := ⟨g2, o2 + i, none⟩) hbl2).trans (HCI.out i hin)
        have hi1 : ((i : Int) + 1) = ((i + 1 : Nat) : Int) := by omega
        have hti := HAt.out i hin
        obtain ⟨th, hth⟩ : ∃ th, idA xs i = th := ⟨_, rfl⟩
        have HTh := hid hth
        rw [hth] at hci hti
        have hiw : IntKind.i64.wrap ((i + 1 : Nat) : Int) = ((i + 1 : Nat) : Int) := IntWalk.i64_in _ (by omega)
        have hicap : i + 1 ≤ uc := by omega
        have hicapI : ((i + 1 : Nat) : Int) ≤ (uc : Int) := by omega
        obtain ⟨i1, hi1e⟩ : ∃ i1, i + 1 = i1 := ⟨_, rfl⟩
        rw [hi1e] at hi1 hiw hicap hicapI
        have HI1 := hid hi1e
        have hi1n : i1 ≤ n := by omega
        clear hth hi1e
        obtain ⟨W1, hW1⟩ : ∃ x, x = wr := ⟨wr, rfl⟩
        rw [← hW1] at HR1 HC1 HP1 HB1 hci hz1 ⊢
        clear hW1
        go_wp2
        clear hci hi1 hiw
        go_loopw [39] (fun j wr => ∃ t : Nat, t ≤ i1 ∧ j = .int .i64 t ∧ RowsB 3 22 wr q (P + 1) (rowsN (rwF xs wk i t) n) ∧ Blk wr cb 3 (Vals (List.replicate n 0)) ∧ Blk wr P 82 #[.slice (some ⟨g2, o2, none⟩) n uc, .slice (some ⟨q, 0, none⟩) n n, .slice (some ⟨cb, 0, none⟩) n n, .func (.func 73) #[] #[]] ∧ Below w'.heap.size w' wr ∧ P + 1 ≤ wr.heap.size) (fun i _ => i1 - (intOf i).toNat)
        case atStart => exact ⟨0, Nat.zero_le _, rfl, HR1.out, HC1.out, HP1.out, HB1.out, hz1⟩
        case round =>
          obtain ⟨j, hj, rfl, hr2, hk1, hk2, hb2, hz2⟩ := hrel
          have HR2 := hid hr2
          have HC2 := hid hk1
          have HP2 := hid hk2
          have HB2 := hid hb2
          clear hr2 hk1 hk2 hb2
          by_cases hjn : j < i1
          · have hjn2 : j < n := by omega
            have hcj := (HB2.out.cell (p := ⟨g2, o2 + j, none⟩) hbl2).trans (HCI.out j hjn2)
            have htj := HAt.out j hjn2
            obtain ⟨tl, htl⟩ : ∃ tl, idA xs j = tl := ⟨_, rfl⟩
            have HTl := hid htl
            rw [htl] at hcj htj
            have HCall := hid (HSt.out tl th wr (below_to HB.out HB2.out) htj hti)
            clear htl
            cases hst : wk tl th
            · have HE : Hid (rowsN (rwF xs wk i (j + 1)) n = rowsN (rwF xs wk i j) n) := hid (rwF_no (by rw [HTl.out, HTh.out]; exact hst))
              rw [hst] at HCall
              clear hst
              go_wp2_with fail
              with_reducible refine HCall.out.mono ?_
              rintro e w2 ⟨rfl, hb3⟩
              have HR3 := hid (HR2.out.below hb3)
              have HC3 := hid (HC2.out.below hb3 HC2.out.lt)
              have HP3 := hid (HP2.out.below hb3 HP2.out.lt)
              have HB3 := hid (below_to HB2.out hb3)
              have hz3 := Nat.le_trans hz2 hb3.size
              clear hb3 hcj
              go_wp2
              go_roundw
              case rel => exact ⟨j + 1, by omega, by go_num, by rw [HE.out]; exact HR3.out, HC3.out, HP3.out, HB3.out, hz3⟩
              case measure => simp [intOf]; omega
            · have HE := hid (rwF_yes (xs := xs) (st := wk) (k := j) hin (by rw [HTl.out, HTh.out]; exact hst))
              have HEa := hid (rwF_at (xs := xs) (st := wk) (k := j) hin)
              have hlen := setsL_length (fun j => wk (idA xs j) (idA xs i)) j
              rw [hst] at HCall
              obtain ⟨ln, hln⟩ : ∃ ln, setsL (fun j => wk (idA xs j) (idA xs i)) j = ln := ⟨_, rfl⟩
              rw [hln] at HE HEa hlen
              clear hst hln
              go_wp2_with fail
              with_reducible refine HCall.out.mono ?_
              rintro e w2 ⟨rfl, hb3⟩
              have HR3 := hid (HR2.out.below hb3)
              have HC3 := hid (HC2.out.below hb3 HC2.out.lt)
              have HP3 := hid (HP2.out.below hb3 HP2.out.lt)
              have HB3 := hid (below_to HB2.out hb3)
              have hz3 := Nat.le_trans hz2 hb3.size
              clear hb3 hcj
              obtain ⟨ru, hru, hrf, hro, -, -⟩ := HR3.out.at (j := i) (by rw [HSmk.out]; exact hin)
              rw [HEa.out] at hro
              have hp1 : w2.cell? ⟨P, 1, none⟩ = some (.slice (some ⟨q, 0, none⟩) n n) := by rw [HP3.out.cell]; rfl
              have hPl : P < w2.heap.size := HP3.out.lt
              have hql : q < w2.heap.size := by omega
              have hcl : cb < w2.heap.size := by omega
              have HLl : Hid (((rowsN (rwF xs wk i j) n).getD i []).length < 1048576) := hid (by rw [HEa.out]; omega)
              have HRu := hid hru
              have HRuA := hid (fun (o : Obj) => ((below_alloc (Below.refl _ w2) o).cell (p := ⟨q, i, none⟩) hql).trans hru)
              obtain ⟨rA, rn, rc, hrsh⟩ := hro.shape3
              subst hrsh
              have hil : i < (rowsN (rwF xs wk i j) n).length := by rw [HSmk.out]; exact hin
              have HIl := hid hil
              have hjl : j ≤ i := by have := HI1.out; omega
              rw [← HEa.out] at HE
              clear hro hrf hlen hil
              go_wp2_with fail
              go_region_law (refine step_append_rows rfl _ _ 22 22 3 rfl Try.underlying22 Try.info3 q (P + 1) i (rowsN (rwF xs wk i j) n) (j : Nat) (.slice rA rn rc) (by first | exact (HR3.out.alloc _).drew | exact HR3.out.drew.alloc _ | exact HR3.out.alloc _) HIl.out (by first | exact HRuA.out (.cells #[.int .i64 ((j : Nat) : Int)] 3) | exact HRu.out) rfl w2.heap.size rfl (by first | exact Blk.newAt _ _ _ _ rfl | exact Blk.newAt w2 _ _ _ rfl) HLl.out (by simp; omega) ?_; intro g' cap w' h1 h2 h3 h4; have HB4 : Hid (Below (P + 1) (w2.alloc (.cells #[.int .i64 ((j : Nat) : Int)] 3)) w') := hid (by first | exact h3 | exact (below_drewN (Below.refl _ _) 1).trans h3); have HR4 := hid h4; have hp4 : w'.cell? ⟨P, 1, none⟩ = some (.slice (some ⟨q, 0, none⟩) n n) := (((HP3.out.alloc _).below HB4.out (Nat.lt_succ_self P)).cell 1).trans rfl; clear h3 h4)
              all_goals clear hp1 hru
              all_goals go_wp2
              all_goals go_roundw
              all_goals first
                | exact ⟨j + 1, by omega, by go_num, (by first | (rw [← HE.out]; exact HR4.out) | (rw [← HE.out]; exact HR4.out.drew)), ((HC3.out.alloc _).below HB4.out (by omega)).far (p := ⟨q, i, none⟩) (by simp only; omega) _, ((HP3.out.alloc _).below HB4.out (by omega)).far (p := ⟨q, i, none⟩) (by simp only; omega) _, ((below_alloc HB3.out _).trans (HB4.out.mono (by omega))).setCell (p := ⟨q, i, none⟩) hq4 _, by have h5 := HB4.out.size; simp [World.setCell] at h5 ⊢; omega⟩
                | (simp [intOf]; omega)
          · have hji : j = i + 1 := by have := HI1.out; omega
            subst hji
            go_wp2
            go_roundw
            case rel => exact ⟨i + 1, by omega, by go_num, by rw [← rwF_next]; exact HR2.out, HC2.out, HP2.out, HB2.out, hz2⟩
            case measure => simp [intOf]; omega
      · have hin' : i = n := by omega
        subst hin'
        have hp2 : wr.cell? ⟨P, 2, none⟩ = some (.slice (some ⟨cb, 0, none⟩) i i) := by rw [HP1.out.cell]; rfl
        have hc0 : wr.cell? ⟨cb, 0, none⟩ = some (.int .i64 0) := by
          rw [HC1.out.cell, Vals_get (by rw [List.length_replicate]; exact hn1)]
          congr 2
          unfold List.getD; rw [List.getElem?_replicate]; split <;> rfl
        have hf0 := HC1.out.frozen 0
        have hip : (0 : Int) < (i : Int) := by omega
        go_wp2
        go_ret
        have HCs := HC1.out.set_ 0 (.int .i64 1)
        have hset : (List.replicate i (0 : Int)).set 0 1 = mkL i fun r => if r = 0 then 1 else 0 := by
          rw [mkL_upd (g := fun _ => 0) (h := fun r => if r = 0 then 1 else 0) 1 hn1 (fun r _ => rfl), mkL_zero]; rfl
        rw [Vals_set, hset] at HCs
        have HPs := HP1.out.far (p := ⟨cb, 0, none⟩) (by simp only; omega) (.int .i64 1)
        have HRs := HR1.out.far (p := ⟨cb, 0, none⟩) (by simp only; omega) (by simp only; omega) (.int .i64 1)
        rw [rwF_full] at HRs
        have HBs := HB1.out.setCell (p := ⟨cb, 0, none⟩) hq5 (.int .i64 1)
        refine ⟨P, _, _, rfl, by omega, ⟨_, HPs, fun W hW => ⟨?_, ?_, ?_⟩⟩, below_to HB.out HBs⟩
        · have h1 := HO.out.below HBs
          exact (h1.kp hW (fun e => by have := (HO.out.blockLt P e).2; omega)).ints
        · have h1 := (HRs.kp hW (by omega) (by omega)).ss i
          rw [rowsN_length] at h1
          rw [HBl.out]; exact h1
        · have h1 := (hW.block cb HCs.lt (by omega)).trans HCs
          have h2 := Blk.ints (w := W) (g := cb) (c := i) (t := 3) (xs := mkL i fun r => if r = 0 then 1 else 0) h1
          rw [mkL_length] at h2
          rw [HC0.out]; exact h2
  · obtain ⟨W0, hW0⟩ : ∃ W0, W0 = (((w'.alloc (.cells (Vals (List.replicate n 0)) 3)).alloc (.cells (madeCells #[.slice none 0 0] n) 22)).alloc (.cells #[.slice (some ⟨g2, o2, none⟩) n uc, .slice (some ⟨w'.heap.size + 1, 0, none⟩) n n, .slice (some ⟨w'.heap.size, 0, none⟩) n n, .func (.func 73) #[] #[]] 82)) := ⟨_, rfl⟩
    have HR : Hid (RowsB 3 22 W0 (w'.heap.size + 1) (w'.heap.size + 2 + 1) (rowsN (fun _ => []) n)) := hid (by
      have h := (RowsB.made 3 22 (w'.alloc (.cells (Vals (List.replicate n 0)) 3)) n (w'.heap.size + 2 + 1) (by simp)).alloc (.cells #[.slice (some ⟨g2, o2, none⟩) n uc, .slice (some ⟨w'.heap.size + 1, 0, none⟩) n n, .slice (some ⟨w'.heap.size, 0, none⟩) n n, .func (.func 73) #[] #[]] 82)
      have e : (w'.alloc (.cells (Vals (List.replicate n 0)) 3)).heap.size = w'.heap.size + 1 := by simp
      rw [e] at h
      rw [hW0]; exact h)
    have HKc : Hid (Blk W0 w'.heap.size 3 (Vals (List.replicate n 0))) := hid (by
      rw [hW0]; exact ((Blk.newAt _ _ _ _ rfl).alloc _).alloc _)
    have HKp : Hid (Blk W0 (w'.heap.size + 2) 82 #[.slice (some ⟨g2, o2, none⟩) n uc, .slice (some ⟨w'.heap.size + 1, 0, none⟩) n n, .slice (some ⟨w'.heap.size, 0, none⟩) n n, .func (.func 73) #[] #[]]) := hid (by
      rw [hW0]; exact Blk.newAt _ _ _ _ (by simp))
    have HW0 : Hid (Below w'.heap.size w' W0 ∧ W0.heap.size = w'.heap.size + 2 + 1) := hid (by
      rw [hW0]; exact ⟨below_alloc (below_alloc (below_alloc (Below.refl _ w') _) _) _, by simp⟩)
    rw [← hW0]
    clear hW0
    obtain ⟨cb, hcb⟩ : ∃ cb, w'.heap.size = cb := ⟨_, rfl⟩
    obtain ⟨q, hq⟩ : ∃ q, w'.heap.size + 1 = q := ⟨_, rfl⟩
    obtain ⟨P, hP⟩ : ∃ P, w'.heap.size + 2 = P := ⟨_, rfl⟩
    have hP' : w'.heap.size + 1 + 1 = P := hP
    rw [hP']
    rw [hP] at HKp HR HW0
    rw [hq] at HKp HR ⊢
    rw [hcb] at HKc HKp ⊢
    have hqP : q < P ∧ cb < P ∧ q ≠ cb ∧ w'.heap.size ≤ q ∧ w'.heap.size ≤ cb ∧ w'.heap.size ≤ P := by omega
    clear hq hcb hP
    obtain ⟨hq1, hq2, hq3, hq4, hq5, hq6⟩ := hqP
    have hW0z : P + 1 ≤ W0.heap.size := Nat.le_of_eq HW0.out.2.symm
    go_loopw [29] (fun i wr => ∃ t : Nat, t ≤ n ∧ i = .int .i64 t ∧ RowsB 3 22 wr q (P + 1) (rowsN (rwF xs wk t 0) n) ∧ Blk wr cb 3 (Vals (List.replicate n 0)) ∧ Blk wr P 82 #[.slice (some ⟨g2, o2, none⟩) n uc, .slice (some ⟨q, 0, none⟩) n n, .slice (some ⟨cb, 0, none⟩) n n, .func (.func 73) #[] #[]] ∧ Below w'.heap.size w' wr ∧ P + 1 ≤ wr.heap.size) (fun i _ => n - (intOf i).toNat)
    case atStart => exact ⟨0, Nat.zero_le _, rfl, by rw [rwF_start]; exact HR.out, HKc.out, HKp.out, below_drewN HW0.out.1 1, hW0z⟩
    case round =>
      obtain ⟨i, hi, rfl, hr1, hk1, hk2, hb1, hz1⟩ := hrel
      have HR1 := hid hr1
      have HC1 := hid hk1
      have HP1 := hid hk2
      have HB1 := hid hb1
      clear hr1 hk1 hk2 hb1
      by_cases hin : i < n
      · have hci := (HB1.out.cell (p := ⟨g2, o2 + i, none⟩) hbl2).trans (HCI.out i hin)
        have hi1 : ((i : Int) + 1) = ((i + 1 : Nat) : Int) := by omega
        have hti := HAt.out i hin
        obtain ⟨th, hth⟩ : ∃ th, idA xs i = th := ⟨_, rfl⟩
        have HTh := hid hth
        rw [hth] at hci hti
        have hiw : IntKind.i64.wrap ((i + 1 : Nat) : Int) = ((i + 1 : Nat) : Int) := IntWalk.i64_in _ (by omega)
        have hicap : i + 1 ≤ uc := by omega
        have hicapI : ((i + 1 : Nat) : Int) ≤ (uc : Int) := by omega
        obtain ⟨i1, hi1e⟩ : ∃ i1, i + 1 = i1 := ⟨_, rfl⟩
        rw [hi1e] at hi1 hiw hicap hicapI
        have HI1 := hid hi1e
        have hi1n : i1 ≤ n := by omega
        clear hth hi1e
        obtain ⟨W1, hW1⟩ : ∃ x, x = wr := ⟨wr, rfl⟩
        rw [← hW1] at HR1 HC1 HP1 HB1 hci hz1 ⊢
        clear hW1
        go_wp2
        clear hci hi1 hiw
        go_loopw [39] (fun j wr => ∃ t : Nat, t ≤ i1 ∧ j = .int .i64 t ∧ RowsB 3 22 wr q (P + 1) (rowsN (rwF xs wk i t) n) ∧ Blk wr cb 3 (Vals (List.replicate n 0)) ∧ Blk wr P 82 #[.slice (some ⟨g2, o2, none⟩) n uc, .slice (some ⟨q, 0, none⟩) n n, .slice (some ⟨cb, 0, none⟩) n n, .func (.func 73) #[] #[]] ∧ Below w'.heap.size w' wr ∧ P + 1 ≤ wr.heap.size) (fun i _ => i1 - (intOf i).toNat)
        case atStart => exact ⟨0, Nat.zero_le _, rfl, HR1.out, HC1.out, HP1.out, HB1.out, hz1⟩
        case round =>
          obtain ⟨j, hj, rfl, hr2, hk1, hk2, hb2, hz2⟩ := hrel
          have HR2 := hid hr2
          have HC2 := hid hk1
          have HP2 := hid hk2
          have HB2 := hid hb2
          clear hr2 hk1 hk2 hb2
          by_cases hjn : j < i1
          · have hjn2 : j < n := by omega
            have hcj := (HB2.out.cell (p := ⟨g2, o2 + j, none⟩) hbl2).trans (HCI.out j hjn2)
            have htj := HAt.out j hjn2
            obtain ⟨tl, htl⟩ : ∃ tl, idA xs j = tl := ⟨_, rfl⟩
            have HTl := hid htl
            rw [htl] at hcj htj
            have HCall := hid (HSt.out tl th wr (below_to HB.out HB2.out) htj hti)
            clear htl
            cases hst : wk tl th
            · have HE : Hid (rowsN (rwF xs wk i (j + 1)) n = rowsN (rwF xs wk i j) n) := hid (rwF_no (by rw [HTl.out, HTh.out]; exact hst))
              rw [hst] at HCall
              clear hst
              go_wp2_with fail
              with_reducible refine HCall.out.mono ?_
              rintro e w2 ⟨rfl, hb3⟩
              have HR3 := hid (HR2.out.below hb3)
              have HC3 := hid (HC2.out.below hb3 HC2.out.lt)
              have HP3 := hid (HP2.out.below hb3 HP2.out.lt)
              have HB3 := hid (below_to HB2.out hb3)
              have hz3 := Nat.le_trans hz2 hb3.size
              clear hb3 hcj
              go_wp2
              go_roundw
              case rel => exact ⟨j + 1, by omega, by go_num, by rw [HE.out]; exact HR3.out, HC3.out, HP3.out, HB3.out, hz3⟩
              case measure => simp [intOf]; omega
            · have HE := hid (rwF_yes (xs := xs) (st := wk) (k := j) hin (by rw [HTl.out, HTh.out]; exact hst))
              have HEa := hid (rwF_at (xs := xs) (st := wk) (k := j) hin)
              have hlen := setsL_length (fun j => wk (idA xs j) (idA xs i)) j
              rw [hst] at HCall
              obtain ⟨ln, hln⟩ : ∃ ln, setsL (fun j => wk (idA xs j) (idA xs i)) j = ln := ⟨_, rfl⟩
              rw [hln] at HE HEa hlen
              clear hst hln
              go_wp2_with fail
              with_reducible refine HCall.out.mono ?_
              rintro e w2 ⟨rfl, hb3⟩
              have HR3 := hid (HR2.out.below hb3)
              have HC3 := hid (HC2.out.below hb3 HC2.out.lt)
              have HP3 := hid (HP2.out.below hb3 HP2.out.lt)
              have HB3 := hid (below_to HB2.out hb3)
              have hz3 := Nat.le_trans hz2 hb3.size
              clear hb3 hcj
              obtain ⟨ru, hru, hrf, hro, -, -⟩ := HR3.out.at (j := i) (by rw [HSmk.out]; exact hin)
              rw [HEa.out] at hro
              have hp1 : w2.cell? ⟨P, 1, none⟩ = some (.slice (some ⟨q, 0, none⟩) n n) := by rw [HP3.out.cell]; rfl
              have hPl : P < w2.heap.size := HP3.out.lt
              have hql : q < w2.heap.size := by omega
              have hcl : cb < w2.heap.size := by omega
              have HLl : Hid (((rowsN (rwF xs wk i j) n).getD i []).length < 1048576) := hid (by rw [HEa.out]; omega)
              have HRu := hid hru
              have HRuA := hid (fun (o : Obj) => ((below_alloc (Below.refl _ w2) o).cell (p := ⟨q, i, none⟩) hql).trans hru)
              obtain ⟨rA, rn, rc, hrsh⟩ := hro.shape3
              subst hrsh
              have hil : i < (rowsN (rwF xs wk i j) n).length := by rw [HSmk.out]; exact hin
              have HIl := hid hil
              have hjl : j ≤ i := by have := HI1.out; omega
              rw [← HEa.out] at HE
              clear hro hrf hlen hil
              go_wp2_with fail
              go_region_law (refine step_append_rows rfl _ _ 22 22 3 rfl Try.underlying22 Try.info3 q (P + 1) i (rowsN (rwF xs wk i j) n) (j : Nat) (.slice rA rn rc) (by first | exact (HR3.out.alloc _).drew | exact HR3.out.drew.alloc _ | exact HR3.out.alloc _) HIl.out (by first | exact HRuA.out (.cells #[.int .i64 ((j : Nat) : Int)] 3) | exact HRu.out) rfl w2.heap.size rfl (by first | exact Blk.newAt _ _ _ _ rfl | exact Blk.newAt w2 _ _ _ rfl) HLl.out (by simp; omega) ?_; intro g' cap w' h1 h2 h3 h4; have HB4 : Hid (Below (P + 1) (w2.alloc (.cells #[.int .i64 ((j : Nat) : Int)] 3)) w') := hid (by first | exact h3 | exact (below_drewN (Below.refl _ _) 1).trans h3); have HR4 := hid h4; have hp4 : w'.cell? ⟨P, 1, none⟩ = some (.slice (some ⟨q, 0, none⟩) n n) := (((HP3.out.alloc _).below HB4.out (Nat.lt_succ_self P)).cell 1).trans rfl; clear h3 h4)
              all_goals clear hp1 hru
              all_goals go_wp2
              all_goals go_roundw
              all_goals first
                | exact ⟨j + 1, by omega, by go_num, (by first | (rw [← HE.out]; exact HR4.out) | (rw [← HE.out]; exact HR4.out.drew)), ((HC3.out.alloc _).below HB4.out (by omega)).far (p := ⟨q, i, none⟩) (by simp only; omega) _, ((HP3.out.alloc _).below HB4.out (by omega)).far (p := ⟨q, i, none⟩) (by simp only; omega) _, ((below_alloc HB3.out _).trans (HB4.out.mono (by omega))).setCell (p := ⟨q, i, none⟩) hq4 _, by have h5 := HB4.out.size; simp [World.setCell] at h5 ⊢; omega⟩
                | (simp [intOf]; omega)
          · have hji : j = i + 1 := by have := HI1.out; omega
            subst hji
            go_wp2
            go_roundw
            case rel => exact ⟨i + 1, by omega, by go_num, by rw [← rwF_next]; exact HR2.out, HC2.out, HP2.out, HB2.out, hz2⟩
            case measure => simp [intOf]; omega
      · have hin' : i = n := by omega
        subst hin'
        have hp2 : wr.cell? ⟨P, 2, none⟩ = some (.slice (some ⟨cb, 0, none⟩) i i) := by rw [HP1.out.cell]; rfl
        have hc0 : wr.cell? ⟨cb, 0, none⟩ = some (.int .i64 0) := by
          rw [HC1.out.cell, Vals_get (by rw [List.length_replicate]; exact hn1)]
          congr 2
          unfold List.getD; rw [List.getElem?_replicate]; split <;> rfl
        have hf0 := HC1.out.frozen 0
        have hip : (0 : Int) < (i : Int) := by omega
        go_wp2
        go_ret
        have HCs := HC1.out.set_ 0 (.int .i64 1)
        have hset : (List.replicate i (0 : Int)).set 0 1 = mkL i fun r => if r = 0 then 1 else 0 := by
          rw [mkL_upd (g := fun _ => 0) (h := fun r => if r = 0 then 1 else 0) 1 hn1 (fun r _ => rfl), mkL_zero]; rfl
        rw [Vals_set, hset] at HCs
        have HPs := HP1.out.far (p := ⟨cb, 0, none⟩) (by simp only; omega) (.int .i64 1)
        have HRs := HR1.out.far (p := ⟨cb, 0, none⟩) (by simp only; omega) (by simp only; omega) (.int .i64 1)
        rw [rwF_full] at HRs
        have HBs := HB1.out.setCell (p := ⟨cb, 0, none⟩) hq5 (.int .i64 1)
        refine ⟨P, _, _, rfl, by omega, ⟨_, HPs, fun W hW => ⟨?_, ?_, ?_⟩⟩, below_to HB.out HBs⟩
        · have h1 := HO.out.below HBs
          exact (h1.kp hW (fun e => by have := (HO.out.blockLt P e).2; omega)).ints
        · have h1 := (HRs.kp hW (by omega) (by omega)).ss i
          rw [rowsN_length] at h1
          rw [HBl.out]; exact h1
        · have h1 := (hW.block cb HCs.lt (by omega)).trans HCs
          have h2 := Blk.ints (w := W) (g := cb) (c := i) (t := 3) (xs := mkL i fun r => if r = 0 then 1 else 0) h1
          rw [mkL_length] at h2
          rw [HC0.out]; exact h2
end Go.Proofs.Ytgepbekdgocnpab
