/- Arrays in the program: fillings loaded and stored whole; toggled. -/
import Derived.Test.YtgepbekdgocnpaaArI
import Derived.Test.YtgepbekdgocnpaaTg
import Derived.Laws.CopyOwn
namespace Go.Proofs.Ytgepbekdgocnpaa
open Go.RowKit Go.WideShapes Go.ChangeShapes
set_option linter.unusedVariables false

theorem fill_load {w : World} {g : Nat} {C : Array Value} (h : Blk w g 59 C) (hs : C.size = 11) : (loadCellsFrom ⟨g, 0, none⟩ 0 11 #[]).run Try.prog w = .ok C w := by
  have := run_loadCells_list (P := Try.prog) w ⟨g, 0, none⟩ C.toList (fun j v hv => by
    have hadd : (⟨g, 0, none⟩ : Addr).add j = ⟨g, j, none⟩ := by unfold Addr.add; split <;> simp_all
    rw [hadd, cell_of_row _ _ j C _ (0, 0) h]
    simpa using hv)
  simpa [loadCells, hs] using this
theorem fill_store {w : World} {g : Nat} {C D : Array Value} (h : Blk w g 59 D) (hd : D.size = 11) (hs : C.size = 11) (h1 : C.all (·.oneCell') = true) : (storeCells ⟨g, 0, none⟩ C.toList 0).run Try.prog w = .ok () (w.setRow g C) := by
  have := run_storeCells_at Try.prog g 0 59 C.toList 0 D w h (by simp [hd, hs]) (fun v hv => by
    rw [Array.all_eq_true] at h1
    obtain ⟨i, hi, e⟩ := List.mem_iff_getElem.1 hv
    have := h1 i (by simpa using hi)
    rw [← e]; simpa using this)
  rw [this]
  have hdrop : D.toList.drop (0 + 0 + C.toList.length) = [] := List.drop_eq_nil_of_le (by simp [hd, hs])
  rw [hdrop]
  simp
theorem fillInfo : (Try.prog.info? 59).map (·.size) = some 11 := by kernel_rfl
theorem fill_ldW {w : World} {ops : Array Oper} {rest : List Oper} {o : Oper} {a : Act} {Q : Exit → Act → World → Prop} (hgd : o.guard = none) (x : Operand) (ho : o.op = .load 59 x)
    (g : Nat) (hx : a.eval x = .pointer (some ⟨g, 0, none⟩)) (C : Array Value) (hg : Blk w g 59 C) (hs : C.size = 11)
    (h : wpList Try.prog ops Q rest (a.put o.dst (.agg C)) w) : wpList Try.prog ops Q (o :: rest) a w :=
  wpList_load_row hgd _ x ho g hx _ C (0, 0) _ hg Try.underlying59 rfl (by rw [fillInfo, hs]) h
theorem fill_stW {w : World} {ops : Array Oper} {rest : List Oper} {o : Oper} {a : Act} {Q : Exit → Act → World → Prop} (hgd : o.guard = none) (x y : Operand) (ho : o.op = .store 59 x y)
    (g : Nat) (C D : Array Value) (hx : a.eval x = .pointer (some ⟨g, 0, none⟩)) (hy : a.eval y = .agg C) (hg : Blk w g 59 D) (hd : D.size = 11) (hs : C.size = 11) (h1 : C.all (·.oneCell') = true)
    (h : wpList Try.prog ops Q rest (a.put o.dst undef) (w.setRow g C)) : wpList Try.prog ops Q (o :: rest) a w :=
  wpList_store_row hgd _ x y ho g C hx hy _ D hg (by rw [fillInfo, hs]) (by rw [hd, hs]) h1 h
theorem Blk.setRowA {w : World} {g : Nat} {t : TypeId} {C D : Array Value} (h : Blk w g t D) : Blk (w.setRow g C) g t C := setRow_heap w g D C t (0, 0) h
theorem Blk.setRowFar {w : World} {g k : Nat} {t : TypeId} {C D : Array Value} (h : Blk w k t D) (hk : k ≠ g) : Blk (w.setRow g C) k t D := (setRow_other w g k C hk).trans h
set_option maxHeartbeats 1600000 in
theorem toggled_any (v u : Value) (xs f ys : List Int) (b : Int) (w : World) (hv : Ints w v xs) (hu : Ints w u ys) (hg : good xs = true) (hr : Rise xs f b) (b0 : 0 ≤ b) (b1 : b ≤ 20) (hw : ∀ j, j < ys.length → 0 ≤ ys.getD j 0 ∧ ys.getD j 0 < xs.length) (hm : ys.length ≤ 1048576) :
    Calls Try.prog 55 #[.agg (fc f b), .agg #[v], u] w fun r w' => r = .returned (.agg (fc (wdK xs b f ys ys.length) b)) ∧ Below w.heap.size w w' := by
  have HV := hid hv
  have HU := hid hu
  have HW := hid hw
  have HRk := hid (fun k (hk : k ≤ ys.length) => wdK_rise (wd := ys) hg hr (t := k) (fun j hj => hw j (by omega)))
  have HRg := hid (fun W g e hW he => rangeAt_any v xs g b e W hW hg he)
  have hl10 := (good_length hg).2
  obtain ⟨T, ct, rfl, hTc⟩ := hu
  have HTc := hid hTc
  obtain ⟨Y, hY⟩ : ∃ Y, ys.length = Y := ⟨_, rfl⟩
  have HY := hid hY
  rw [hY] at HU HW HRk HTc hm ⊢
  clear hv hg hr hw hTc hY
  have HSz : Hid (∀ k, (fc (wdK xs b f ys k) b).size = 11) := hid (fun k => fc_size _ b)
  have HOne := hid (fun k => fc_one (wdK xs b f ys k) b)
  have HGet := hid (fun k j (hj : j < 10) => fc_get (f := wdK xs b f ys k) (b := b) hj)
  have HStep := hid (fun k (hk : k ≤ Y) (e : Nat) (he : e < xs.length) (y : Int) => fc_set (f := wdK xs b f ys k) (b := b) (y := y) (e := e) (by rw [(HRk.out k hk).len]; exact he) (by rw [(HRk.out k hk).len]; exact hl10))
  have HC0 := hid (show fc (wdK xs b f ys 0) b = fc f b from rfl)
  obtain ⟨C, hC⟩ : ∃ C : Nat → Array Value, (fun k => fc (wdK xs b f ys k) b) = C := ⟨_, rfl⟩
  have hCk : ∀ k, fc (wdK xs b f ys k) b = C k := fun k => congrFun hC k
  have HCk := hid hCk
  have HSz2 : Hid (∀ k, (C k).size = 11) := hid (fun k => by rw [← hCk]; exact HSz.out k)
  have HOne2 : Hid (∀ k, (C k).all (·.oneCell') = true) := hid (fun k => by rw [← hCk]; exact HOne.out k)
  rw [show fc f b = C 0 from hCk 0, hCk Y]
  clear hC hCk
  go_enter Try.func55, Try.ntmps55
  go_wp2_with fail
  have HB := hid (below_alloc (below_alloc (below_alloc (Below.refl _ w) (.cells (C 0) 59)) (.cells #[v] 28)) (.cells (fc [] 0) 59))
  have HF : Hid (Blk (((w.alloc (.cells (C 0) 59)).alloc (.cells #[v] 28)).alloc (.cells (fc [] 0) 59)) w.heap.size 59 (C 0)) := hid (((Blk.new w _ (C 0)).alloc _).alloc _)
  have HA : Hid (At (((w.alloc (.cells (C 0) 59)).alloc (.cells #[v] 28)).alloc (.cells (fc [] 0) 59)) (w.heap.size + 1) v) := hid ((At.newAt _ _ _ _ (by simp)).alloc _)
  have HR : Hid (Blk (((w.alloc (.cells (C 0) 59)).alloc (.cells #[v] 28)).alloc (.cells (fc [] 0) 59)) (w.heap.size + 1 + 1) 59 (fc [] 0)) := hid (Blk.newAt _ _ _ _ (by simp))
  go_loopw [13] (fun i wr => ∃ k : Nat, k ≤ Y ∧ i = .int .i64 k ∧ Blk wr w.heap.size 59 (C k) ∧ At wr (w.heap.size + 1) v ∧ Blk wr (w.heap.size + 1 + 1) 59 (fc [] 0) ∧ Below w.heap.size w wr) (fun i _ => Y - (intOf i).toNat)
  case atStart => exact ⟨0, Nat.zero_le _, rfl, HF.out, HA.out, HR.out, HB.out⟩
  case round =>
    clear HB HF HA HR
    obtain ⟨k, hk, rfl, hf, ha, hr, hb⟩ := hrel
    have HF := hid hf
    have HA := hid ha
    have HR := hid hr
    have HB := hid hb
    have hlc := fill_load hf (HSz2.out k)
    have hbox := ha.1
    clear ha hr hf
    by_cases hlt : k < Y
    · obtain ⟨tb, to, rfl, htl, htc⟩ := HTc.out (by intro h; have := HY.out; rw [h] at this; simp at this; omega)
      have hcell := (hb.cell (p := ⟨tb, to + k, none⟩) htl).trans (htc k hlt)
      have hrg := HW.out k hlt
      have HS : Hid (wdK xs b f ys (k + 1) = pT xs b (wdK xs b f ys k) (ys.getD k 0).toNat) := hid rfl
      obtain ⟨y, hy⟩ : ∃ y, ys.getD k 0 = y := ⟨_, rfl⟩
      rw [hy] at hcell hrg HS
      obtain ⟨e, rfl⟩ := Int.eq_ofNat_of_zero_le hrg.1
      rw [Int.toNat_natCast] at HS
      have hen : e < xs.length := by omega
      have he10 : e < 10 := by omega
      have hri := HRk.out k (by omega)
      have hlo := hri.lo hen (Nat.le_refl _)
      have hhi := hri.hi hen (Nat.le_refl _)
      have HSt := hid (HStep.out k (by omega) e hen (yT xs b (wdK xs b f ys k) e))
      have HYt := hid (show yT xs b (wdK xs b f ys k) e = loN xs (wdK xs b f ys k) e xs.length + hiN xs (wdK xs b f ys k) b e xs.length - (wdK xs b f ys k).getD e 0 from rfl)
      have HCall := hid (HRg.out wr (wdK xs b f ys k) e (HV.out.below hb) hen)
      rw [HCk.out k] at HCall
      have hge := HGet.out k e he10
      rw [HCk.out k] at hge
      obtain ⟨lo, hlo'⟩ : ∃ lo, loN xs (wdK xs b f ys k) e xs.length = lo := ⟨_, rfl⟩
      obtain ⟨hi, hhi'⟩ : ∃ hi, hiN xs (wdK xs b f ys k) b e xs.length = hi := ⟨_, rfl⟩
      obtain ⟨x, hx⟩ : ∃ x, (wdK xs b f ys k).getD e 0 = x := ⟨_, rfl⟩
      rw [hlo', hx] at hlo
      rw [hhi', hx] at hhi
      rw [hlo', hhi'] at HCall
      rw [hlo', hhi', hx] at HYt
      rw [hx] at hge
      have hw1 : IntKind.i64.wrap (lo + hi) = lo + hi := IntWalk.i64_in _ (by omega)
      have hw2 : IntKind.i64.wrap (lo + hi - x) = lo + hi - x := IntWalk.i64_in _ (by omega)
      have Hw1 := hid hw1
      have Hw2 := hid hw2
      have HSn : Hid (C (k + 1) = (C k).setIfInBounds e (.int .i64 (lo + hi - x))) := hid (by
        have := HSt.out
        rw [HYt.out, HCk.out k] at this
        rw [this, ← HCk.out (k + 1), HS.out, pT, HYt.out])
      have HGe := hid hge
      clear hb hy htc hri hlo' hhi' hx hge hw1 hw2
      go_wp2_with (refine fill_ldW rfl _ rfl _ rfl _ HF.out (HSz2.out k) ?_)
      refine HCall.out.mono ?_
      rintro e' w3 ⟨rfl, hb3⟩
      have HF3 := hid (HF.out.below hb3 HF.out.lt)
      have HA3 := hid (HA.out.below hb3)
      have HR3 := hid (HR.out.below hb3 HR.out.lt)
      have HB3 := hid (below_to HB.out hb3)
      have hce : w3.cell? ⟨w.heap.size, e, none⟩ = some (.int .i64 x) := by rw [HF3.out.cell]; exact HGe.out
      have hfz := HF3.out.frozen e
      have hw1 := Hw1.out
      have hw2 := Hw2.out
      clear hb3 hlc hbox hcell
      go_wp2
      clear hw1 hw2 hce hfz
      go_roundw
      case rel => exact ⟨k + 1, by omega, by go_num, by rw [HSn.out]; exact HF3.out.set_ e _, HA3.out.far (p := ⟨w.heap.size, e, none⟩) (by show w.heap.size + 1 ≠ w.heap.size; omega) _, HR3.out.far (p := ⟨w.heap.size, e, none⟩) (by show w.heap.size + 1 + 1 ≠ w.heap.size; omega) _, HB3.out.setCell (p := ⟨w.heap.size, e, none⟩) (Nat.le_refl _) _⟩
      case measure => simp [intOf]; try omega
    · obtain rfl : k = Y := by omega
      have hst := fill_store HR.out (fc_size [] 0) (HSz2.out k) (HOne2.out k)
      have hl2 := fill_load (HR.out.setRowA (C := C k)) (HSz2.out k)
      clear hbox hb hlc
      have HB9 := hid (below_setRow (B := w.heap.size) HB.out (show w.heap.size ≤ w.heap.size + 1 + 1 by omega) (C k))
      have hlc2 := fill_load HF.out (HSz2.out k)
      go_wp2_with (first | (refine fill_ldW rfl _ rfl _ rfl _ HF.out (HSz2.out k) ?_) | (refine fill_stW rfl _ _ rfl _ _ _ rfl rfl HR.out (fc_size [] 0) (HSz2.out k) (HOne2.out k) ?_))
      exact bodyPost_ret (results_cell_row rfl _ _ (w.heap.size + 1 + 1) 59 (C k) (0, 0) _ rfl (HR.out.setRowA (C := C k)) Try.underlying59 rfl (by rw [fillInfo, HSz2.out k])) rfl ⟨rfl, HB9.out⟩
end Go.Proofs.Ytgepbekdgocnpaa
