/- Rectangles of few elements; orbits of promotion. -/
import Derived.Test.YtkcjppbplllaiabProm2
import Derived.Test.YtkcjppbplllaiabOrbC
namespace Go.Proofs.Ytkcjppbplllaiab
open Go.RowKit Go.WideShapes Go.ChangeShapes
set_option linter.unusedVariables false

def sides9 (a b : Int) : Bool := sides a b && decide (a * b ≤ 9)
def rect9 (a b : Int) : List Int := if sides9 a b then rectL a b else []
theorem sides9_no1 {a b : Int} (h : sides a b = false) : sides9 a b = false := by simp [sides9, h]
theorem sides9_no2 {a b : Int} (h : ¬ a * b ≤ 9) : sides9 a b = false := by simp [sides9, h]
theorem sides9_yes {a b : Int} (h : sides a b = true) (k : a * b ≤ 9) : sides9 a b = true := by simp [sides9, h, k]
theorem rect9_no {a b : Int} (h : sides9 a b = false) : rect9 a b = [] := by simp [rect9, h]
theorem rect9_yes {a b : Int} (h : sides9 a b = true) : rect9 a b = rectL a b := by simp [rect9, h]
theorem rect9_length (a b : Int) : (rect9 a b).length ≤ 1048576 := by
  unfold rect9; split
  · exact rectL_length a b
  · simp
theorem sides9_all {a b : Int} (h : sides9 a b = true) : ∃ x y : Nat, a = x ∧ b = y ∧ 1 ≤ x ∧ x ≤ 10 ∧ 1 ≤ y ∧ y ≤ 10 ∧ x * y ≤ 9 ∧ rectL a b = whereL (rectF y) (x * y) ∧ good (rectL a b) = true ∧ (rectL a b).length = x * y := by
  simp only [sides9, Bool.and_eq_true, decide_eq_true_eq] at h
  obtain ⟨x, y, rfl, rfl, h1, h2, h3, h4, h5⟩ := sides_nat h.1
  have hr := rectL_yes h.1
  have h9 : x * y ≤ 9 := by
    have := h.2
    rw [← Int.natCast_mul] at this; omega
  refine ⟨x, y, rfl, rfl, h1, h2, h3, h4, h9, hr, ?_, ?_⟩
  · rw [hr]; exact rectGood h1 h2 h3 h4 h5
  · rw [hr, whereL, mkL_length]
theorem obSides_any (a b : Int) (w : World) (wa : (Lit.int .i64 a).wf = true) (wb : (Lit.int .i64 b).wf = true) :
    Calls Try.prog 39 #[.int .i64 a, .int .i64 b] w fun r w' => r = .returned (.bool (sides9 a b)) ∧ w = w' := by
  have HP := hid (poSides_any a b w wa wb)
  cases hs : sides a b
  · have HO := hid (sides9_no1 hs)
    rw [hs] at HP
    clear hs wa wb
    go_enter Try.func39, Try.ntmps39
    go_wp2_with (go_at_call 71; refine HP.out.mono ?_; rintro e w' ⟨rfl, rfl⟩)
    go_ret
    exact ⟨ret_bool HO.out.symm, rfl⟩
  · obtain ⟨x, y, rfl, rfl, h1, h2, h3, h4, h5⟩ := sides_nat hs
    have HS := hid hs
    rw [hs] at HP
    obtain ⟨n, hn⟩ : ∃ n, x * y = n := ⟨_, rfl⟩
    have hm : ((x : Int) * (y : Int)) = (n : Int) := by rw [← Int.natCast_mul, hn]
    have HMu := hid hm
    rw [hn] at h5
    clear hs wa wb hm hn
    by_cases h9 : n ≤ 9
    · have HO := hid (sides9_yes HS.out (by rw [HMu.out]; omega))
      have hm := HMu.out
      have h9' : (n : Int) ≤ 9 := by omega
      go_enter Try.func39, Try.ntmps39
      go_wp2_with (go_at_call 71; refine HP.out.mono ?_; rintro e w' ⟨rfl, rfl⟩)
      go_ret
      exact ⟨ret_bool HO.out.symm, rfl⟩
    · have HO := hid (sides9_no2 (a := x) (b := y) (by rw [HMu.out]; omega))
      have hm := HMu.out
      have h9' : ¬ (n : Int) ≤ 9 := by omega
      have h9d : decide ((n : Int) ≤ 9) = false := by simp; omega
      go_enter Try.func39, Try.ntmps39
      go_wp2_with (go_at_call 71; refine HP.out.mono ?_; rintro e w' ⟨rfl, rfl⟩)
      go_ret
      exact ⟨ret_bool (by rw [HO.out]), rfl⟩
theorem rectangleWithin_any (a b : Int) (w : World) (wa : (Lit.int .i64 a).wf = true) (wb : (Lit.int .i64 b).wf = true) :
    Calls Try.prog 43 #[.int .i64 a, .int .i64 b] w fun (r : Ending) w' => ∃ u, r = Ending.returned (.tuple #[.agg #[u], .bool (sides9 a b)]) ∧ OwnI 3 w' w.heap.size u (rect9 a b) ∧ (rect9 a b).length ≤ 1048576 ∧ Below w.heap.size w w' := by
  have HL := hid (rect9_length a b)
  have HT := hid (implRectangle_any a b (w.alloc (.cells #[.slice none 0 0] 38)) wa wb)
  clear wa wb
  go_enter Try.func43, Try.ntmps43
  go_wp2_with fail
  refine HT.out.mono ?_
  rintro e w1 ⟨u, rfl, ho, hl, hb⟩
  obtain ⟨uA, uc, hsh, -⟩ := ho.ints
  subst hsh
  have HR := hid ((Blk.new w 38 #[.slice none 0 0]).below hb (by simp))
  have HB := hid (below_to (below_alloc (Below.refl _ w) _) hb)
  have HO := hid (OwnI.mono ho (B' := w.heap.size + 1) (by simp))
  have hz1 : w.heap.size < w1.heap.size := by have := hb.size; simp at this; omega
  have hres : ∀ (V : Value) (O : Obj), ((w1.setCell ⟨w.heap.size, 0, none⟩ V).alloc O).cell? ⟨w.heap.size, 0, none⟩ = some V := fun V O => by
    have := ((HR.out.set_ 0 V).alloc O).cell 0
    simpa using this
  have HRes := hid hres
  have HBel := hid (fun (V : Value) (O : Obj) => below_alloc (HB.out.setCell (p := ⟨w.heap.size, 0, none⟩) (Nat.le_refl _) V) O)
  have HOw := hid (fun (V : Value) (O : Obj) => ((HO.out.grown (grown_setCell (World.grownBy.refl _ _) 0 V) (HO.out.apart (.inl (Nat.lt_succ_self _)))).mono (Nat.le_succ _)).alloc O)
  have t1 := HR.out.cell 0
  have t2 := HR.out.frozen 0
  clear ho hb hres
  cases hs : sides a b
  · have HN := hid (sides9_no1 hs)
    have HE := hid (rect9_no (sides9_no1 hs))
    clear hs
    go_wp2
    refine bodyPost_ret (v := .tuple #[.agg #[.slice none 0 0], .bool false]) (by simp [results, Try.results43, go_sem, HRes.out]) rfl ⟨.slice none 0 0, by rw [HN.out], by rw [HE.out]; exact OwnI.nil _ _ _, HL.out, HBel.out _ _⟩
  · obtain ⟨x, y, rfl, rfl, h1, h2, h3, h4, h5⟩ := sides_nat hs
    have hlen : (rectL (x : Int) (y : Int)).length = x * y := by rw [rectL_yes hs, whereL, mkL_length]
    obtain ⟨n, hn⟩ : ∃ n, x * y = n := ⟨_, rfl⟩
    have HMu : Hid (((x : Int) * (y : Int)) = (n : Int)) := hid (by rw [← Int.natCast_mul, hn])
    rw [hn] at h5 hlen
    by_cases h9 : n ≤ 9
    · have HY := hid (sides9_yes hs (by rw [HMu.out]; omega))
      have HE := hid (rect9_yes HY.out)
      rw [← HE.out] at HO HOw hlen ⊢
      obtain ⟨m, hm⟩ : ∃ m, (rect9 (x : Int) (y : Int)).length = m := ⟨_, rfl⟩
      have h9' : ¬ (9 : Int) < (m : Int) := by omega
      rw [hm] at HO HOw ⊢
      clear hs hlen hn hm
      go_wp2
      refine bodyPost_ret (v := .tuple #[.agg #[.slice uA m uc], .bool true]) (by simp [results, Try.results43, go_sem, HRes.out]) rfl ⟨.slice uA m uc, by rw [HY.out], HOw.out _ _, HL.out, HBel.out _ _⟩
    · have HN := hid (sides9_no2 (a := x) (b := y) (by rw [HMu.out]; omega))
      have HE := hid (rect9_no HN.out)
      obtain ⟨m, hm⟩ : ∃ m, (rectL (x : Int) (y : Int)).length = m := ⟨_, rfl⟩
      have h9' : (9 : Int) < (m : Int) := by omega
      rw [hm] at HO HOw ⊢
      clear hs hlen hn hm
      go_wp2
      refine bodyPost_ret (v := .tuple #[.agg #[.slice none 0 0], .bool false]) (by simp [results, Try.results43, go_sem, HRes.out]) rfl ⟨.slice none 0 0, by rw [HN.out], by rw [HE.out]; exact OwnI.nil _ _ _, HL.out, HBel.out _ _⟩
def okOb (a b s : Int) : Bool := sides9 a b && okIdeal (rectL a b) s
theorem okOb_no1 {a b s : Int} (h : sides9 a b = false) : okOb a b s = false := by simp [okOb, h]
theorem okOb_no2 {a b s : Int} (h : okIdeal (rectL a b) s = false) : okOb a b s = false := by simp [okOb, h]
theorem okOb_yes {a b s : Int} (h : sides9 a b = true) (k : okIdeal (rectL a b) s = true) : okOb a b s = true := by simp [okOb, h, k]
theorem okOb_PI {a b s : Int} (h : sides9 a b = true) : okOb a b s = okPI a b s := by
  have : sides a b = true := by simp only [sides9, Bool.and_eq_true] at h; exact h.1
  simp [okOb, okPI, h, this]
theorem obIdeal_any (a b s : Int) (w : World) (wa : (Lit.int .i64 a).wf = true) (wb : (Lit.int .i64 b).wf = true) :
    Calls Try.prog 46 #[.int .i64 a, .int .i64 b, .int .i64 s] w fun r w' => r = .returned (.bool (okOb a b s)) ∧ Below w.heap.size w w' := by
  have HP := hid (obSides_any a b w wa wb)
  have HQ := hid (fun W => tgRectangle_any a b s W wa wb)
  cases hs : sides9 a b
  · have HO := hid (okOb_no1 (s := s) hs)
    rw [hs] at HP
    clear hs wa wb
    go_enter Try.func46, Try.ntmps46
    go_wp2_with (go_at_call 39; refine HP.out.mono ?_; rintro e w' ⟨rfl, rfl⟩)
    go_ret
    exact ⟨ret_bool HO.out.symm, Below.refl _ _⟩
  · have HO := hid (okOb_PI (s := s) hs)
    rw [hs] at HP
    clear hs wa wb
    go_enter Try.func46, Try.ntmps46
    go_wp2_with (go_at_call 39; refine HP.out.mono ?_; rintro e w' ⟨rfl, rfl⟩)
    refine (HQ.out _).mono ?_
    rintro e w' ⟨rfl, hb⟩
    have HB := hid hb
    clear hb
    go_wp2
    go_ret
    exact ⟨ret_bool HO.out.symm, HB.out⟩
theorem wordMov {xs ys : List Int} (hy : inW xs.length ys = true) : Mov (wordF xs ys) (idB xs) (2 ^ xs.length) := togMov hy
set_option maxHeartbeats 1600000 in
theorem obPromotion_any (a b s : Nat) (w : World) (ha : 1 ≤ a) (ha2 : a ≤ 10) (hb1 : 1 ≤ b) (hb2 : b ≤ 10) (hab : a * b ≤ 10) (xs : List Int) (hx : whereL (rectF b) (a * b) = xs) (hs : idB xs s = true) :
    Calls Try.prog 42 #[.int .i64 a, .int .i64 b, .int .i64 s] w fun (r : Ending) w' => ∃ q, r = Ending.returned q ∧ OwnI 3 w' w.heap.size q (orbL (wordF xs (promW a b)) (2 ^ xs.length) s) ∧ Below w.heap.size w w' := by
  have hlen : xs.length = a * b := by rw [← hx, whereL, mkL_length]
  have hl10 : xs.length ≤ 10 := by omega
  have hin : inW xs.length (promW a b) = true := by rw [hlen]; exact (promW_in ha2 hb2).ok
  have HM := hid (wordMov hin)
  have hN2 := two_pow_le xs.length hl10
  have HLt := hid (fun k => (idB_iff.1 (HM.out.it hs k)).1)
  have HPS := hid (HM.out.perS hs)
  have HCall := hid (fun (t : Nat) (W : World) (ht : t < 2 ^ xs.length) => show Calls Try.prog 73 #[.int .i64 a, .int .i64 b, .int .i64 t] W fun r w' => r = .returned (.int .i64 (wordF xs (promW a b) t : Nat)) ∧ Below W.heap.size W w' from by
    have := tgPromote_any a b t W ha ha2 hb1 hb2 hab (by rw [← hlen]; exact ht)
    rw [hx] at this; exact this)
  have HS0 := hid (idB_iff.1 hs).1
  obtain ⟨f, hf⟩ : ∃ f, wordF xs (promW a b) = f := ⟨_, rfl⟩
  rw [hf] at HM HLt HPS HCall ⊢
  obtain ⟨P, hP⟩ : ∃ P, per f (2 ^ xs.length) s = P := ⟨_, rfl⟩
  have HOr : Hid (orbL f (2 ^ xs.length) s = orbTL f s P) := hid (by unfold orbL; rw [hP])
  rw [hP] at HPS
  have hP1 : 1 ≤ P ∧ P ≤ 1024 := ⟨HPS.out.2.1, Nat.le_trans HPS.out.2.2.1 hN2.2⟩
  obtain ⟨hP1, hP2⟩ := hP1
  rw [HOr.out]
  clear hs hP HOr hN2 hf hin hlen hx hab
  go_enter Try.func42, Try.ntmps42
  go_wp2_with fail
  refine (HCall.out s _ HS0.out).mono ?_
  rintro e w' ⟨rfl, hb⟩
  have HO := hid ((Blk.own (xs := [(s : Int)]) (B := w.heap.size) (Blk.newAt _ 3 _ w.heap.size rfl) (Nat.le_refl _) (by simp)).below hb)
  have HB := hid (below_to (below_alloc (Below.refl _ w) _) hb)
  have HI1 : Hid (iter f 1 s = f s) := hid rfl
  clear hb
  go_wp2
  go_loopw [7, 8] (fun q t wr => ∃ (k x : Nat) (oA : Option Addr) (oc : Nat), 1 ≤ k ∧ k ≤ P ∧ t = .int .i64 (x : Nat) ∧ q = .slice oA k oc ∧ Hid (iter f k s = x) ∧ OwnI 3 wr w.heap.size (.slice oA k oc) (orbTL f s k) ∧ Below w.heap.size w wr) (fun q _ _ => P - lenV q)
  case atStart => exact ⟨1, _, _, _, Nat.le_refl _, hP1, rfl, rfl, HI1, HO.out, HB.out⟩
  case round =>
    obtain ⟨k, x, oA, oc, hk1, hkP, rfl, rfl, HX, ho, hb⟩ := hrel
    have HO1 := hid ho
    have HB1 := hid hb
    have hz1 := hb.size
    have hxl : x < 2 ^ xs.length := by rw [← HX.out]; exact HLt.out k
    have HXL := hid hxl
    have hll := orbTL_length f s k
    have hl48 : (orbTL f s k).length < 1048576 := by omega
    clear ho hb hxl hll
    by_cases hlt : k < P
    · have hne : x ≠ s := by rw [← HX.out]; exact HPS.out.2.2.2 k hk1 hlt
      have hneI : ¬ ((x : Nat) : Int) = ((s : Nat) : Int) := by omega
      have HSn : Hid (orbTL f s (k + 1) = orbTL f s k ++ [(x : Int)]) := hid (by rw [orbTL_succ, HX.out])
      go_wp2_with (at_builtin; refine wpList_append_int rfl _ _ 22 3 rfl Try.underlying22 Try.info3 w.heap.size _ _ x rfl HO1.out rfl rfl hl48 hz1 ?_; rintro q2 w6 ho6 hb6; obtain ⟨qA, qn, qc, rfl⟩ := ho6.shape3; have HB6 := hid (below_to2 HB1.out hb6 (Nat.le_refl _)); have HO6 := hid ho6; clear ho6 hb6)
      clear hne hneI
      refine (HCall.out x _ HXL.out).mono ?_
      rintro e' w7 ⟨rfl, hb⟩
      have HB7 := hid (below_to HB6.out hb)
      have HO7 := hid (HO6.out.below hb)
      clear hb
      obtain ⟨qA', qc', hsh, -⟩ := HO7.out.shape
      obtain ⟨rfl, hqn, rfl⟩ : qA = qA' ∧ qn = (orbTL f s k ++ [(x : Int)]).length ∧ qc = qc' := by cases hsh; exact ⟨rfl, rfl, rfl⟩
      have hqn2 : qn = k + 1 := by rw [hqn, List.length_append, orbTL_length]; rfl
      subst hqn2
      clear hsh hqn
      go_wp2
      go_roundw
      case rel => exact ⟨k + 1, _, _, _, by omega, by omega, rfl, rfl, hid (by rw [iter, HX.out]), (by rw [HSn.out]; exact HO7.out), HB7.out⟩
      case measure => simp [lenV]; omega
    · obtain rfl : k = P := by omega
      have hxs : x = s := by rw [← HX.out]; exact HPS.out.1
      subst hxs
      go_wp2
      go_ret
      exact ⟨_, rfl, HO1.out, HB1.out⟩
end Go.Proofs.Ytkcjppbplllaiab
