/- Promotion of ideals of rectangles. -/
import Derived.Test.YtkcjppbplllaiabRect
import Derived.Test.YtkcjppbplllaiabRow3
import Derived.Test.YtkcjppbplllaiabCycC
namespace Go.Proofs.Ytkcjppbplllaiab
open Go.RowKit Go.WideShapes Go.ChangeShapes
set_option linter.unusedVariables false

def rectGoodChk (a b : Nat) : Bool := good (whereL (rectF b) (a * b))
theorem rectGood_chk : ((List.range 11).all fun a => (List.range 11).all fun b => decide (a * b = 0) || decide (10 < a * b) || rectGoodChk a b) = true := by decide +kernel
theorem rectGood {a b : Nat} (h1 : 1 ≤ a) (h2 : a ≤ 10) (h3 : 1 ≤ b) (h4 : b ≤ 10) (h5 : a * b ≤ 10) : good (whereL (rectF b) (a * b)) = true := by
  have h := List.all_eq_true.1 (List.all_eq_true.1 rectGood_chk a (List.mem_range.2 (by omega))) b (List.mem_range.2 (by omega))
  simp only [Bool.or_eq_true, decide_eq_true_eq] at h
  have h0 : 0 < a * b := Nat.mul_pos (by omega) (by omega)
  rcases h with (h | h) | h
  · omega
  · omega
  · exact h
def promIn (a b : Nat) (d : Int) : Nat → List Int
  | 0 => []
  | r + 1 => promIn a b d r ++ (if 0 ≤ (r : Int) + d ∧ (r : Int) + d < b then [((b * r : Nat) : Int) + ((r : Int) + d)] else [])
def promPS (a b : Nat) : Nat → List Int
  | 0 => []
  | i + 1 => promPS a b i ++ promIn a b (1 - (a : Int) + i) a
def promW (a b : Nat) : List Int := promPS a b (a + b - 1)
theorem promIn_yes {a b r c : Nat} {d : Int} (h : (r : Int) + d = c) (hc : c < b) : promIn a b d (r + 1) = promIn a b d r ++ [((b * r + c : Nat) : Int)] := by
  simp only [promIn, h]
  rw [if_pos ⟨by omega, by omega⟩]
  simp
theorem promIn_no {a b r : Nat} {d : Int} (h : ¬ (0 ≤ (r : Int) + d ∧ (r : Int) + d < b)) : promIn a b d (r + 1) = promIn a b d r := by
  simp only [promIn]
  rw [if_neg h, List.append_nil]
theorem cell_lt {a b r c : Nat} (hr : r < a) (hc : c < b) : b * r + c < a * b := by
  have h1 : b * (r + 1) ≤ b * a := Nat.mul_le_mul_left b hr
  have h2 : b * (r + 1) = b * r + b := Nat.mul_succ b r
  have h3 : b * a = a * b := Nat.mul_comm b a
  omega
theorem inW_append {n : Nat} {ys zs : List Int} (h : inW n ys = true) (k : inW n zs = true) : inW n (ys ++ zs) = true := by
  unfold inW at *
  rw [List.all_append, h, k]; rfl
theorem promIn_in {a b : Nat} {d : Int} (r : Nat) (hr : r ≤ a) : inW (a * b) (promIn a b d r) = true ∧ (promIn a b d r).length ≤ r := by
  induction r with
  | zero => exact ⟨rfl, by simp [promIn]⟩
  | succ r ih =>
    have ih := ih (by omega)
    by_cases h : 0 ≤ (r : Int) + d ∧ (r : Int) + d < b
    · obtain ⟨c, hc⟩ := Int.eq_ofNat_of_zero_le h.1
      rw [promIn_yes hc (by omega)]
      refine ⟨inW_append ih.1 ?_, by rw [List.length_append]; simp; omega⟩
      have := cell_lt (a := a) (b := b) (r := r) (c := c) (by omega) (by omega)
      simp only [inW, List.all_cons, List.all_nil, Bool.and_true, Bool.and_eq_true, decide_eq_true_eq]
      omega
    · rw [promIn_no h]
      exact ⟨ih.1, by omega⟩
theorem promPS_in (a b i : Nat) : inW (a * b) (promPS a b i) = true ∧ (promPS a b i).length ≤ a * i := by
  induction i with
  | zero => exact ⟨rfl, by simp [promPS]⟩
  | succ i ih =>
    have h := promIn_in (a := a) (b := b) (d := 1 - (a : Int) + i) a (Nat.le_refl _)
    refine ⟨inW_append ih.1 h.1, ?_⟩
    rw [promPS, List.length_append, Nat.mul_succ]
    omega
theorem togW_append (xs : List Int) (s : Nat) (ys zs : List Int) : togW xs s (ys ++ zs) = togW xs (togW xs s ys) zs := by simp [togW]
theorem togW_snoc (xs : List Int) (s : Nat) (ys : List Int) (e : Nat) : togW xs s (ys ++ [(e : Int)]) = tog xs (togW xs s ys) e := by rw [togW_append, togW_one']
where togW_one' : togW xs (togW xs s ys) [(e : Int)] = tog xs (togW xs s ys) e := by simp [togW]
/-- words that have all their numbers in range, and their length -/
structure PW (a b : Nat) (ys : List Int) : Prop where
  ok : inW (a * b) ys = true
  len : ys.length ≤ 1000
theorem PW.mk' {a b : Nat} (h2 : a ≤ 10) (h4 : b ≤ 10) {i : Nat} (hi : i ≤ a + b - 1) {d : Int} (r : Nat) (hr : r ≤ a) : PW a b (promPS a b i ++ promIn a b d r) := by
  have h := promPS_in a b i
  have k := promIn_in (a := a) (b := b) (d := d) r hr
  refine ⟨inW_append h.1 k.1, ?_⟩
  rw [List.length_append]
  have : a * i ≤ 10 * 19 := Nat.mul_le_mul h2 (by omega)
  omega
theorem promW_in {a b : Nat} (h2 : a ≤ 10) (h4 : b ≤ 10) : PW a b (promW a b) := by
  have := PW.mk' h2 h4 (i := a + b - 1) (Nat.le_refl _) (d := 0) 0 (Nat.zero_le _)
  unfold promW
  simpa [promIn] using this

set_option maxHeartbeats 1600000 in
theorem tgPromote_any (a b s : Nat) (w : World) (ha : 1 ≤ a) (ha2 : a ≤ 10) (hb1 : 1 ≤ b) (hb2 : b ≤ 10) (hab : a * b ≤ 10) (hs : s < 2 ^ (a * b)) :
    Calls Try.prog 73 #[.int .i64 a, .int .i64 b, .int .i64 s] w fun r w' => r = .returned (.int .i64 (togW (whereL (rectF b) (a * b)) s (promW a b) : Nat)) ∧ Below w.heap.size w w' := by
  have HG := hid (rectGood ha ha2 hb1 hb2 hab)
  have HR := hid (poRectangle_any a b w ha ha2 hb1 hb2 hab)
  obtain ⟨xs, hx⟩ : ∃ xs, whereL (rectF b) (a * b) = xs := ⟨_, rfl⟩
  have hlen : xs.length = a * b := by rw [← hx, whereL, mkL_length]
  rw [hx] at HG HR ⊢
  have HS := hid (show s < 2 ^ xs.length by rw [hlen]; exact hs)
  have HLen := hid hlen
  have HAB := hid hab
  clear hx hlen hs hab
  go_enter Try.func73, Try.ntmps73
  go_wp2_with fail
  refine HR.out.mono ?_
  rintro e w1 ⟨u, rfl, ho, hb⟩
  have HV := hid (ho.ints.alloc (.cells #[u] 38))
  obtain ⟨uA, un, uc, rfl⟩ := ho.shape3
  have HB := hid (below_alloc hb (.cells #[.slice uA un uc] 38))
  have HA := hid (At.new w1 (.slice uA un uc) 38)
  obtain ⟨g, hg⟩ : ∃ g, w1.heap.size = g := ⟨_, rfl⟩
  obtain ⟨W, hW⟩ : ∃ W, w1.alloc (.cells #[.slice uA un uc] 38) = W := ⟨_, rfl⟩
  rw [hg] at HA
  rw [hW] at HV HB HA
  clear ho hb
  go_wp2
  clear hW hg
  go_loopw [2, 8] (fun q i wr => ∃ (j t : Nat) (d : Int), j ≤ a + b - 1 ∧ i = .int .i64 d ∧ Hid (d = 1 - (a : Int) + j) ∧ 1 - (a : Int) ≤ d ∧ d ≤ b ∧ q = .int .i64 t ∧ Hid (togW xs s (promPS a b j) = t) ∧ Below w.heap.size w wr ∧ At wr g (.slice uA un uc) ∧ Below W.heap.size W wr) (fun _ i _ => ((b : Int) - intOf i).toNat)
  case atStart => exact ⟨0, s, _, Nat.zero_le _, rfl, hid (by simp), by omega, by omega, rfl, hid rfl, HB.out, HA.out, Below.refl _ _⟩
  case round =>
    obtain ⟨j, t, d, hj, rfl, HD, hd1, hd2, rfl, HT, hb, hat, hW⟩ := hrel
    have HB1 := hid hb
    have HA1 := hid hat
    have HW1 := hid hW
    clear hb hat hW
    by_cases hlt : d < b
    · have hj1 : j + 1 ≤ a + b - 1 := by have := HD.out; omega
      go_wp2
      go_loopw [2, 9] (fun q i wr => ∃ (r t : Nat), r ≤ a ∧ i = .int .i64 r ∧ q = .int .i64 t ∧ Hid (togW xs s (promPS a b j ++ promIn a b d r) = t) ∧ Below w.heap.size w wr ∧ At wr g (.slice uA un uc) ∧ Below W.heap.size W wr) (fun _ i _ => a - (intOf i).toNat)
      case atStart => exact ⟨0, t, Nat.zero_le _, rfl, rfl, hid (by simp [promIn]; exact HT.out), HB1.out, HA1.out, HW1.out⟩
      case round =>
        obtain ⟨r, t2, hr, rfl, rfl, HT2, hb, hat, hW⟩ := hrel
        have HB2 := hid hb
        have HA2 := hid hat
        have HW2 := hid hW
        have hbox := hat.1
        clear hb hat hW
        by_cases hrl : r < a
        · by_cases hc : 0 ≤ (r : Int) + d ∧ (r : Int) + d < b
          · have Hin := hid (show (decide ((0 : Int) ≤ (r : Int) + d) && decide ((r : Int) + d ≤ (b : Int) - 1)) = true by simp only [Bool.and_eq_true, decide_eq_true_eq]; omega)
            obtain ⟨c, hcc⟩ := Int.eq_ofNat_of_zero_le hc.1
            have hcb : c < b := by omega
            have HE := hid (promIn_yes (a := a) (b := b) hcc hcb)
            have hel := cell_lt hrl hcb
            have hq : b * r ≤ a * b := by omega
            obtain ⟨q, hqq⟩ : ∃ q, b * r = q := ⟨_, rfl⟩
            rw [hqq] at HE hel hq
            have hmul : ((b : Int) * (r : Int)) = (q : Int) := by rw [← hqq]; simp
            have hab := HAB.out
            have hq10 : q ≤ 10 := by omega
            have hex : q + c < xs.length := by rw [HLen.out]; exact hel
            have HL2 : Hid (t2 < 2 ^ xs.length) := hid (by rw [← HT2.out]; exact togW_lt HS.out (by rw [HLen.out]; exact (PW.mk' ha2 hb2 hj r hr).ok))
            have HRD := hid hcc
            have hsum : ((q : Int) + (c : Int)) = ((q + c : Nat) : Int) := by simp
            have hcd : (r : Int) + d = (c : Int) := hcc
            obtain ⟨e, he⟩ : ∃ e, q + c = e := ⟨_, rfl⟩
            rw [he] at hsum hex hel HE
            clear hc hcc hqq hab he
            rw [hcd] at Hin
            go_wp2_with (go_at_call 57; refine (l1In_any _ _ _ _).mono ?_; rw [Hin.out]; rintro e' w' ⟨rfl, rfl⟩)
            refine (tgAt_any _ xs t2 e _ (HV.out.below HW2.out) HG.out HL2.out hex).mono ?_
            rintro e' w' ⟨rfl, hb⟩
            have HB3 := hid (below_to HB2.out hb)
            have HA3 := hid (HA2.out.below hb)
            have HW3 := hid (below_to HW2.out hb)
            clear hb hbox hmul hsum hcd
            go_wp2
            go_roundw
            case rel => exact ⟨r + 1, _, by omega, by go_num, rfl, hid (by rw [HE.out, ← List.append_assoc, togW_snoc, HT2.out]), HB3.out, HA3.out, HW3.out⟩
            case measure => simp [intOf]; omega
          · have Hin := hid (show (decide ((0 : Int) ≤ (r : Int) + d) && decide ((r : Int) + d ≤ (b : Int) - 1)) = false by rw [Bool.eq_false_iff]; simp only [ne_eq, Bool.and_eq_true, decide_eq_true_eq]; omega)
            have HE := hid (promIn_no (a := a) (b := b) hc)
            clear hc
            go_wp2_with (go_at_call 57; refine (l1In_any _ _ _ _).mono ?_; rw [Hin.out]; rintro e' w' ⟨rfl, rfl⟩)
            go_roundw
            case rel => exact ⟨r + 1, t2, by omega, by go_num, rfl, hid (by rw [HE.out, HT2.out]), HB2.out, HA2.out, HW2.out⟩
            case measure => simp [intOf]; omega
        · obtain rfl : r = a := by omega
          have HN : Hid (togW xs s (promPS r b (j + 1)) = t2) := hid (by rw [promPS, ← HD.out]; exact HT2.out)
          clear hbox
          go_wp2
          go_roundw
          case rel => exact ⟨j + 1, t2, d + 1, hj1, rfl, hid (by have := HD.out; omega), by omega, by omega, rfl, HN, HB2.out, HA2.out, HW2.out⟩
          case measure => simp [intOf]; omega
    · have hjn : j = a + b - 1 := by have := HD.out; omega
      go_wp2
      go_ret
      exact ⟨ret_int (by rw [← HT.out, hjn]; rfl), HB1.out⟩
set_option maxHeartbeats 1600000 in
theorem promotionOf_any (a b : Nat) (w : World) (ha : 1 ≤ a) (ha2 : a ≤ 10) (hb1 : 1 ≤ b) (hb2 : b ≤ 10) (hab : a * b ≤ 10) :
    Calls Try.prog 45 #[.int .i64 a, .int .i64 b] w fun (r : Ending) w' => ∃ u, r = Ending.returned u ∧ OwnI 3 w' w.heap.size u (promW a b) ∧ Below w.heap.size w w' := by
  have HAB := hid hab
  clear hab
  go_enter Try.func45, Try.ntmps45
  go_wp2
  go_loopw [5, 6] (fun q i wr => ∃ (j : Nat) (d : Int), j ≤ a + b - 1 ∧ i = .int .i64 d ∧ Hid (d = 1 - (a : Int) + j) ∧ 1 - (a : Int) ≤ d ∧ d ≤ b ∧ OwnI 3 wr w.heap.size q (promPS a b j) ∧ Below w.heap.size w wr) (fun _ i _ => ((b : Int) - intOf i).toNat)
  case atStart => exact ⟨0, _, Nat.zero_le _, rfl, hid (by simp), by omega, by omega, OwnI.nil _ _ _, Below.refl _ _⟩
  case round =>
    obtain ⟨j, d, hj, rfl, HD, hd1, hd2, ho, hb⟩ := hrel
    have HB1 := hid hb
    have HO1 := hid ho
    clear hb ho
    by_cases hlt : d < b
    · have hj1 : j + 1 ≤ a + b - 1 := by have := HD.out; omega
      go_wp2
      go_loopw [5, 17] (fun q i wr => ∃ r : Nat, r ≤ a ∧ i = .int .i64 r ∧ OwnI 3 wr w.heap.size q (promPS a b j ++ promIn a b d r) ∧ Below w.heap.size w wr) (fun _ i _ => a - (intOf i).toNat)
      case atStart => exact ⟨0, Nat.zero_le _, rfl, by simp only [promIn, List.append_nil]; exact HO1.out, HB1.out⟩
      case round =>
        obtain ⟨r, hr, rfl, ho, hb⟩ := hrel
        have HB2 := hid hb
        have HO2 := hid ho
        have hz := hb.size
        clear hb ho
        by_cases hrl : r < a
        · by_cases hc0 : 0 ≤ (r : Int) + d
          · obtain ⟨c, hcc⟩ := Int.eq_ofNat_of_zero_le hc0
            by_cases hcl : c < b
            · have HE := hid (promIn_yes (a := a) (b := b) hcc hcl)
              have hel := cell_lt hrl hcl
              have hln := (PW.mk' (b := b) ha2 hb2 hj (d := d) r hr).len
              have hq : b * r ≤ a * b := by omega
              obtain ⟨q, hqq⟩ : ∃ q, b * r = q := ⟨_, rfl⟩
              rw [hqq] at HE hel hq
              have hab := HAB.out
              have hq10 : q ≤ 10 := by omega
              have hmul : ((b : Int) * (r : Int)) = (q : Int) := by rw [← hqq]; simp
              have hsum : ((q : Int) + (c : Int)) = ((q + c : Nat) : Int) := by simp
              have hcd : (r : Int) + d = (c : Int) := hcc
              obtain ⟨e, he⟩ : ∃ e, q + c = e := ⟨_, rfl⟩
              rw [he] at hsum hel HE
              have hln2 : (promPS a b j ++ promIn a b d r).length < 1048576 := by omega
              clear hc0 hcc hqq hab he hln
              go_wp2_with (at_builtin; refine wpList_append_int rfl _ _ 59 3 rfl Try.underlying59 Try.info3 w.heap.size _ _ e rfl HO2.out rfl rfl hln2 hz ?_; rintro q2 w6 ho6 hb6)
              go_roundw
              case rel => exact ⟨r + 1, by omega, by go_num, (by rw [HE.out, ← List.append_assoc]; exact ho6), HB2.out.trans hb6⟩
              case measure => simp [intOf]; omega
            · have HE := hid (promIn_no (a := a) (b := b) (r := r) (d := d) (by omega))
              have hcb : ¬ (r : Int) + d < b := by omega
              clear hcc
              go_wp2
              go_roundw
              case rel => exact ⟨r + 1, by omega, by go_num, (by rw [HE.out]; exact HO2.out), HB2.out⟩
              case measure => simp [intOf]; omega
          · have HE := hid (promIn_no (a := a) (b := b) (r := r) (d := d) (by omega))
            go_wp2
            go_roundw
            case rel => exact ⟨r + 1, by omega, by go_num, (by rw [HE.out]; exact HO2.out), HB2.out⟩
            case measure => simp [intOf]; omega
        · obtain rfl : r = a := by omega
          have HN : Hid (promPS r b (j + 1) = promPS r b j ++ promIn r b d r) := hid (by rw [promPS, ← HD.out])
          go_wp2
          go_roundw
          case rel => exact ⟨j + 1, d + 1, hj1, rfl, hid (by have := HD.out; omega), by omega, by omega, (by rw [HN.out]; exact HO2.out), HB2.out⟩
          case measure => simp [intOf]; omega
    · have HJ : Hid (promPS a b j = promW a b) := hid (by rw [show j = a + b - 1 by have := HD.out; omega]; rfl)
      go_wp2
      go_ret
      exact ⟨_, rfl, by rw [← HJ.out]; exact HO1.out, HB1.out⟩
end Go.Proofs.Ytkcjppbplllaiab
