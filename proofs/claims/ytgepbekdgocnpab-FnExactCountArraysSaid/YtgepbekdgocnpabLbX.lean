/- nextLabels. -/
import Derived.Test.YtgepbekdgocnpabLbN
import Derived.Test.YtgepbekdgocnpabLabS
namespace Go.Proofs.Ytgepbekdgocnpab
open Go.RowKit Go.WideShapes Go.ChangeShapes
set_option linter.unusedVariables false

theorem set_mid {L R : List Int} {x y : Int} : (L ++ x :: R).set L.length y = L ++ y :: R := by simp
/-- the list under way: the first ones are new, the others as they were -/
def mixF (L f : List Int) : List Int := L ++ f.drop L.length
theorem mixF_length {L f : List Int} (h : L.length ≤ f.length) : (mixF L f).length = f.length := by
  simp [mixF]; omega
theorem mixF_getD {L f : List Int} {j : Nat} (h : j < L.length) : (mixF L f).getD j 0 = L.getD j 0 := by
  simp [mixF, List.getD, List.getElem?_append_left h]
theorem mixF_set {L f : List Int} {y : Int} (h : L.length < f.length) : (mixF L f).set L.length y = mixF (L ++ [y]) f := by
  unfold mixF
  rw [List.drop_eq_getElem_cons h, set_mid, List.append_assoc, List.length_append, List.length_singleton]; rfl
theorem mixF_full {L f : List Int} (h : L.length = f.length) : mixF L f = L := by simp [mixF, h]
theorem mixF_take {f : List Int} {e : Nat} {y : Int} (h : e < f.length) : f.set e y = mixF (f.take e ++ [y]) f := by
  have h1 : (f.take e).length = e := by rw [List.length_take]; omega
  have h2 := mixF_set (L := f.take e) (f := f) (y := y) (by omega)
  rw [h1] at h2
  rw [← h2]; congr 1
  unfold mixF; rw [h1, List.take_append_drop]
theorem turned_setF {B E : Nat} {a b : World} (h : TurnedIn B E a b) (p : Addr) (hp : B ≤ p.block ∧ p.block < E) (u : Value) : TurnedIn B E a (b.setCell p u) :=
  h.trans (TurnedIn.of_grown (row := some p.block) ⟨rfl, rfl, rfl, by simp [World.setCell], fun k hk hne => Below.heap_setCell b p u k (by rintro rfl; exact hne rfl)⟩ (fun k hk => by simp only [Option.some.injEq] at hk; subst hk; exact hp))
theorem turned_belF {B E C : Nat} {a b c : World} (h : TurnedIn B E a b) (hb : Below C b c) (hC : a.heap.size ≤ C) : TurnedIn B E a c :=
  ⟨hb.os.trans h.os, hb.tape.trans h.tape, hb.output.trans h.output, Nat.le_trans h.size hb.size, fun i hi ho => (hb.block i (Nat.lt_of_lt_of_le hi hC)).trans (h.block i hi ho)⟩
set_option maxRecDepth 100000 in
set_option maxHeartbeats 3200000 in
theorem nextLabels_any (v : Value) (xs f : List Int) (m F n cap : Nat) (w0 w : World) (hv : Ints w0 v xs) (hb : Below w0.heap.size w0 w) (hF : w0.heap.size ≤ F) (hk : Blk w F 3 (Vals f)) (hg : good xs = true) (hn : xs.length = n) (hf : f.length = n) (hr : ∀ j, j < f.length → 0 ≤ f.getD j 0 ∧ f.getD j 0 ≤ m) (hm : m ≤ 12) :
    Calls Try.prog 58 #[.agg #[v], .slice (some ⟨F, 0, none⟩) n cap, .int .i64 m] w fun (e : Ending) w' => (e = Ending.returned (.bool false) ∧ AllM m f ∨ ∃ h, e = Ending.returned (.bool true) ∧ Nx xs m f h ∧ Blk w' F 3 (Vals h)) ∧ TurnedIn F (F + 1) w w' := by
  have HV := hid hv
  have HG := hid hg
  have HR := hid hr
  have HK := hid hk
  have HB' := hid hb
  have HNx := hid hn
  have HNf := hid hf
  have hx10 := (good_length hg).2
  have hFw := hk.lt
  obtain ⟨A, c, rfl, -⟩ := hv
  rw [hn] at HV hx10 ⊢
  clear hb hk hg hr hn
  obtain ⟨V, hV⟩ : ∃ V, Value.slice A n c = V := ⟨_, rfl⟩
  have HVv := hid hV
  rw [hV] at HV ⊢
  clear hf
  go_enter Try.func58, Try.ntmps58
  have HB := hid (below_alloc (Below.refl _ w) (.cells #[V] 28))
  have A0 := hid (At.newAt w V 28 w.heap.size (by simp))
  clear hV
  have HK1 : Hid (Blk (w.alloc (.cells #[V] 28)) F 3 (Vals f)) := hid (HK.out.alloc _)
  have HT1 : Hid (TurnedIn F (F + 1) w (w.alloc (.cells #[V] 28))) := hid (TurnedIn.of_below HB.out)
  have hnw : IntKind.i64.wrap ((n : Int) - 1) = (n : Int) - 1 := IntWalk.i64_in _ (by omega)
  go_wp2
  obtain ⟨W0, hW0⟩ : ∃ W0, w.alloc (.cells #[V] 28) = W0 := ⟨_, rfl⟩
  have hWn : w.heap.size < W0.heap.size := by have := A0.out.2; rw [hW0] at this; exact this
  rw [hW0] at HK1 HT1 A0 HB ⊢
  clear hW0
  clear hnw
  go_loop [7] (fun i => ∃ k : Nat, k ≤ n ∧ i = .int .i64 ((k : Int) - 1) ∧ Hid (∀ j, k ≤ j → j < n → f.getD j 0 = m)) (fun i => (intOf i + 1).toNat)
  case atStart => exact ⟨n, Nat.le_refl _, rfl, hid (fun j h1 h2 => by omega)⟩
  case round =>
    obtain ⟨k, hk, rfl, HKm⟩ := hrel
    by_cases hk0 : k = 0
    · subst hk0
      go_wp2
      go_ret
      exact ⟨.inl ⟨rfl, fun j hj => HKm.out j (Nat.zero_le _) (by rw [← HNf.out]; exact hj)⟩, HT1.out⟩
    · obtain ⟨e, rfl⟩ : ∃ e, k = e + 1 := ⟨k - 1, by omega⟩
      have hk1 : ((e + 1 : Nat) : Int) - 1 = (e : Int) := by omega
      rw [hk1]
      have hy0 := HR.out e (by rw [HNf.out]; omega)
      obtain ⟨y, hy⟩ : ∃ y, f.getD e 0 = y := ⟨_, rfl⟩
      have HY := hid hy
      have hcell : W0.cell? ⟨F, e, none⟩ = some (.int .i64 y) := by rw [HK1.out.cell, Vals_get (by rw [HNf.out]; omega), hy]
      rw [hy] at hy0
      clear hy hk0 hk1
      by_cases hym : y = m
      · have HYm := hid hym
        subst hym
        have hw2 : IntKind.i64.wrap ((e : Int) - 1) = (e : Int) - 1 := IntWalk.i64_in _ (by omega)
        go_wp2
        go_round
        case rel => exact ⟨e, by omega, by go_num, hid (fun j h1 h2 => by
          by_cases q : j = e
          · subst q; exact HY.out
          · exact HKm.out j (by omega) h2)⟩
        case measure => simp [intOf]
      · have hfz := HK1.out.frozen e
        have hw2 : IntKind.i64.wrap (y + 1) = y + 1 := IntWalk.i64_in _ (by omega)
        have hne : (y == (m : Int)) = false := by rw [beq_eq_false_iff_ne]; exact hym
        obtain ⟨L0, hL0⟩ : ∃ L0, f.take e ++ [y + 1] = L0 := ⟨_, rfl⟩
        have HL0 := hid hL0
        have HLl : Hid (L0.length = e + 1) := hid (by rw [← hL0, List.length_append, List.length_take, HNf.out, List.length_singleton]; omega)
        have HRL : Hid (∀ j, j < L0.length → 0 ≤ L0.getD j 0 ∧ L0.getD j 0 ≤ m) := hid (by
          rw [← hL0]
          refine rng_snoc (fun j hj => ?_) ⟨by omega, by omega⟩
          rw [List.length_take] at hj
          have := HR.out j (by omega)
          rw [show (f.take e).getD j 0 = f.getD j 0 from by simp only [List.getD, List.getElem?_take]; rw [if_pos (by omega)]]
          exact this)
        have HK2 : Hid (Blk (W0.setCell ⟨F, e, none⟩ (.int .i64 (y + 1))) F 3 (Vals (mixF (fillF xs 0 L0) f))) := hid (by
          rw [fillF, ← hL0, ← mixF_take (by rw [HNf.out]; omega), ← Vals_set]
          exact HK1.out.set_ e _)
        have HT2 : Hid (TurnedIn F (F + 1) w (W0.setCell ⟨F, e, none⟩ (.int .i64 (y + 1)))) := hid (turned_setF HT1.out ⟨F, e, none⟩ ⟨Nat.le_refl _, Nat.lt_succ_self _⟩ _)
        have HA2 : Hid (At (W0.setCell ⟨F, e, none⟩ (.int .i64 (y + 1))) w.heap.size V) := hid (A0.out.far (p := ⟨F, e, none⟩) (by show w.heap.size ≠ F; omega) _)
        have HNxt : Hid (Nx xs m f (fillF xs (n - e - 1) L0)) := hid ⟨e, by rw [HNf.out]; omega, by rw [HY.out]; exact hym, fun j h1 h2 => HKm.out j (by omega) (by rw [← HNf.out]; exact h2), by rw [HNf.out, HY.out, HL0.out]⟩
        clear hL0
        go_wp2
        clear hw2 hfz hcell hne
        go_loopw [8] (fun i wr => ∃ t : Nat, e + 1 + t ≤ n ∧ i = .int .i64 ((e + 1 + t : Nat) : Int) ∧ At wr w.heap.size V ∧ Blk wr F 3 (Vals (mixF (fillF xs t L0) f)) ∧ TurnedIn F (F + 1) w wr) (fun i _ => n - (intOf i).toNat)
        case atStart => exact ⟨0, by omega, by go_num, HA2.out, HK2.out, HT2.out⟩
        case round =>
          obtain ⟨t, ht, rfl, ha, hb, htu⟩ := hrel
          have HA3 := hid ha
          have HK3 := hid hb
          have HT3 := hid htu
          clear ha hb htu
          obtain ⟨g, hg⟩ : ∃ g, e + 1 + t = g := ⟨_, rfl⟩
          have HGe := hid hg
          have HLg : Hid ((fillF xs t L0).length = g) := hid (by rw [fillF_length, HLl.out, hg])
          rw [hg] at ht ⊢
          clear hg
          by_cases hgn : g < n
          · have hbx := HA3.out.1
            have hwb : Below w0.heap.size w0 wr := below_turned HB'.out HT3.out hF
            have hrg := fillF_rng (xs := xs) (m := m) t L0 HRL.out
            rw [HLg.out] at hrg
            have HMx : Hid (∀ j, j < g → (mixF (fillF xs t L0) f).getD j 0 = (fillF xs t L0).getD j 0) := hid (fun j hj => mixF_getD (by rw [HLg.out]; exact hj))
            have HMl : Hid ((mixF (fillF xs t L0) f).length = n) := hid (by rw [mixF_length (by rw [HLg.out, HNf.out]; omega), HNf.out])
            obtain ⟨q, hq⟩ : ∃ q, lstN xs (fillF xs t L0) = q := ⟨_, rfl⟩
            have HLv : Hid (leN xs (mixF (fillF xs t L0) f) g 0 g = (q : Int)) := hid (by rw [leN_congr (fun j hj => HMx.out j hj), ← hq, lstN_int, HLg.out])
            have HCall : Hid (Calls Try.prog 71 #[.agg #[V], .slice (some ⟨F, 0, none⟩) n cap, .int .i64 g, .int .i64 0] wr fun r w' => r = .returned (.int .i64 (q : Int)) ∧ Below wr.heap.size wr w') := hid (by
              have hI : Ints wr (.slice (some ⟨F, 0, none⟩) n cap) (mixF (fillF xs t L0) f) := by
                have h := Blk.ints (c := cap) (show Blk wr F 3 ((mixF (fillF xs t L0) f).map (Value.int .i64)).toArray from HK3.out)
                rw [HMl.out] at h; exact h
              have h := leastLabel_any V _ xs (mixF (fillF xs t L0) f) g 0 wr (HV.out.below hwb) hI HG.out (by rw [HNx.out]; exact hgn) (by rw [HMl.out]; omega) (fun j hj => by rw [HMx.out j hj]; have := hrg j hj; omega) (by omega) (by omega)
              rw [HLv.out] at h; exact h)
            have HSn : Hid (Vals (mixF (fillF xs (t + 1) L0) f) = (Vals (mixF (fillF xs t L0) f)).setIfInBounds g (.int .i64 (q : Int))) := hid (by
              rw [Vals_set, fillF_snoc, hq, ← mixF_set (by rw [HLg.out, HNf.out]; exact hgn), HLg.out])
            have hcg : wr.cell? ⟨F, g, none⟩ = some (.int .i64 ((mixF (fillF xs t L0) f).getD g 0)) := by rw [HK3.out.cell, Vals_get (by rw [HMl.out]; omega)]
            obtain ⟨y2, hy2⟩ : ∃ y2, (mixF (fillF xs t L0) f).getD g 0 = y2 := ⟨_, rfl⟩
            rw [hy2] at hcg
            have hfz := HK3.out.frozen g
            clear hq hrg hy2 hwb
            go_wp2_with (go_at_call 71; refine HCall.out.mono ?_; rintro e2 w2 ⟨rfl, hb2⟩; have HB2 := hid hb2; have HK4 := hid (HK3.out.below hb2 HK3.out.lt); have HA4 := hid (HA3.out.below hb2); have hcg2 : w2.cell? ⟨F, g, none⟩ = some (.int .i64 y2) := (hb2.cell (p := ⟨F, g, none⟩) HK3.out.lt).trans hcg; have hfz2 := HK4.out.frozen g; clear hb2 hcg hfz hbx)
            refine ⟨⟨t + 1, by have := HGe.out; omega, by have := HGe.out; go_num, HA4.out.far (p := ⟨F, g, none⟩) (by show w.heap.size ≠ F; omega) _, by rw [HSn.out]; exact HK4.out.set_ g _, turned_setF (turned_belF HT3.out HB2.out HT3.out.size) ⟨F, g, none⟩ ⟨Nat.le_refl _, Nat.lt_succ_self _⟩ _⟩, by simp [intOf]; omega⟩
          · have hgn2 : g = n := by omega
            go_wp2
            go_ret
            refine ⟨.inr ⟨_, rfl, HNxt.out, ?_⟩, HT3.out⟩
            have e1 := HLg.out
            have e2 := HGe.out
            rw [show n - e - 1 = t by omega]
            have h := HK3.out
            rw [mixF_full (by rw [e1, HNf.out]; exact hgn2)] at h
            exact h
end Go.Proofs.Ytgepbekdgocnpab
