/- IdealWord: contracts. -/
import Derived.Test.YtkcjppbplllaiabSize
import Derived.Test.YtkcjppbplllaiabFile
import Derived.Test.YtkcjppbplllaiabShelfR
import Derived.Laws.Concat
import Derived.Lib.Repeat
namespace Go.Proofs.Ytkcjppbplllaiab
open Go.RowKit Go.WideShapes Go.ChangeShapes
set_option linter.unusedVariables false

/-- the number of elements in row r -/
def rowSz (y z r : Nat) : Nat := pc (z / 2 ^ (y * r) % 2 ^ y)
def iwChk (xs : List Int) (x y : Nat) : Bool := (List.range (2 ^ (x * y))).all fun z => !(holdsIdeal xs z) || (List.range x).all fun r => decide (rowSz y z r ≤ y) && (decide (r = 0) || decide (rowSz y z r ≤ rowSz y z (r - 1)))
theorem iw_chk : ((List.range 10).all fun x => (List.range 10).all fun y => decide (x * y = 0) || (decide (9 < x * y) || iwChk (whereL (rectF y) (x * y)) x y)) = true := by decide +kernel
theorem iw_at {x y z r : Nat} (h1 : 1 ≤ x) (h3 : 1 ≤ y) (h9 : x * y ≤ 9) (hz : z < 2 ^ (x * y)) (hi : holdsIdeal (whereL (rectF y) (x * y)) z = true) (hr : r < x) : rowSz y z r ≤ y ∧ (1 ≤ r → rowSz y z r ≤ rowSz y z (r - 1)) := by
  have hx : x ≤ x * y := Nat.le_mul_of_pos_right x (by omega)
  have hy : y ≤ x * y := Nat.le_mul_of_pos_left y (by omega)
  have hp : 0 < x * y := Nat.mul_pos (by omega) (by omega)
  have h := List.all_eq_true.1 (List.all_eq_true.1 iw_chk x (List.mem_range.2 (by omega))) y (List.mem_range.2 (by omega))
  simp only [Bool.or_eq_true, decide_eq_true_eq] at h
  rcases h with h | h | h
  · omega
  · omega
  · have h2 := List.all_eq_true.1 h z (List.mem_range.2 hz)
    rw [hi] at h2
    simp only [Bool.not_true, Bool.false_or] at h2
    have h3 := List.all_eq_true.1 h2 r (List.mem_range.2 hr)
    simp only [Bool.and_eq_true, Bool.or_eq_true, decide_eq_true_eq] at h3
    exact ⟨h3.1, fun h => by omega⟩
def wB (l : List UInt8) : ByteArray := ⟨l.toArray⟩
theorem wB_size (l : List UInt8) : (wB l).size = l.length := by show l.toArray.size = _; simp
theorem wB_app (a b : List UInt8) : wB a ++ wB b = wB (a ++ b) := by
  unfold wB
  rw [ByteArray.mk_append_mk] <;> simp
theorem run_wB (a b : List UInt8) (h : a.length + b.length ≤ 1000) (w : World) : (Op.stringOp .add (wB a) (wB b)).run Try.prog w = .ok (.string (wB (a ++ b))) w := by
  rw [run_string_add_sum w _ _ (by rw [wB_size, wB_size]; omega), wB_app]
theorem run_wB1 (a : List UInt8) (c : UInt8) (h : a.length ≤ 900) (w : World) : (Op.stringOp .add (wB a) ⟨#[c]⟩).run Try.prog w = .ok (.string (wB (a ++ [c]))) w := run_wB a [c] (by simp <;> omega) w
def atN (x y z : Nat) : Nat → Nat
  | 0 => 0
  | j + 1 => rowSz y z (x - 1 - j)
def wdN (x y z : Nat) : Nat → List UInt8
  | 0 => []
  | j + 1 => wdN x y z j ++ (List.replicate (rowSz y z (x - 1 - j) - atN x y z j) 82 ++ [85])
def wordL (x y z : Nat) : List UInt8 := wdN x y z x ++ List.replicate (y - atN x y z x) 82
theorem atN_facts {x y z : Nat} (h1 : 1 ≤ x) (h3 : 1 ≤ y) (h9 : x * y ≤ 9) (hz : z < 2 ^ (x * y)) (hi : holdsIdeal (whereL (rectF y) (x * y)) z = true) (j : Nat) (hj : j ≤ x) :
    atN x y z j ≤ y ∧ (j < x → atN x y z j ≤ rowSz y z (x - 1 - j) ∧ rowSz y z (x - 1 - j) ≤ y) := by
  constructor
  · match j, hj with
    | 0, _ => exact Nat.zero_le _
    | j + 1, hj => exact (iw_at h1 h3 h9 hz hi (show x - 1 - j < x by omega)).1
  · intro hlt
    have h2 := iw_at h1 h3 h9 hz hi (show x - 1 - j < x by omega)
    refine ⟨?_, h2.1⟩
    match j, hj, hlt with
    | 0, _, _ => exact Nat.zero_le _
    | j + 1, hj, hlt =>
      have h4 := iw_at h1 h3 h9 hz hi (show x - 1 - j < x by omega)
      have h5 := h4.2 (by omega)
      have e : x - 1 - j - 1 = x - 1 - (j + 1) := by omega
      rw [e] at h5
      exact h5
theorem wdN_length {x y z : Nat} (h : ∀ j, j < x → rowSz y z (x - 1 - j) ≤ y) (j : Nat) (hj : j ≤ x) : (wdN x y z j).length ≤ (y + 1) * j := by
  induction j with
  | zero => simp [wdN]
  | succ j ih =>
    have h1 := ih (by omega)
    have h2 := h j (by omega)
    simp only [wdN, List.length_append, List.length_replicate, List.length_singleton]
    rw [Nat.mul_succ]
    omega
def ansIW (a b s : Int) : ByteArray := if okOb a b s then wB (wordL a.toNat b.toNat s.toNat) else wB []
theorem ansIW_no {a b s : Int} (h : okOb a b s = false) : ansIW a b s = wB [] := by simp [ansIW, h]
theorem ansIW_yes {x y z : Nat} (h : okOb x y z = true) : ansIW x y z = wB (wordL x y z) := by simp [ansIW, h]
theorem ret_str {a b : ByteArray} (h : a = b) : Ending.returned (.string a) = .returned (.string b) := by rw [h]
theorem ret_tb {a b : ByteArray} {c d : Bool} (h : a = b) (k : c = d) : Ending.returned (.tuple #[.string a, .bool c]) = .returned (.tuple #[.string b, .bool d]) := by rw [h, k]
theorem and_mod (d y : Nat) : d &&& (2 ^ y - 1) = d % 2 ^ y := Nat.and_two_pow_sub_one_eq_mod d y
/-- what both need of an ideal's word -/
structure IW (x y z : Nat) : Prop where
  x1 : 1 ≤ x
  x10 : x ≤ 10
  y1 : 1 ≤ y
  y10 : y ≤ 10
  xy : x * y ≤ 9
  z9 : z < 512
  facts : ∀ j, j ≤ x → atN x y z j ≤ y ∧ (j < x → atN x y z j ≤ rowSz y z (x - 1 - j) ∧ rowSz y z (x - 1 - j) ≤ y)
  len : ∀ j, j ≤ x → (wdN x y z j).length ≤ 110
theorem IW.of {x y z : Nat} (h : okOb x y z = true) : IW x y z := by
  obtain ⟨x', y', z', e1, e2, e3, h1, h2, h3, h4, h5, hr, hg, hlx, hz⟩ := okOb_all h
  have : x' = x := by omega
  subst this
  have : y' = y := by omega
  subst this
  have : z' = z := by omega
  subst this
  obtain ⟨hz1, hz2⟩ := idB_iff.1 hz
  rw [hlx] at hz1
  rw [hr] at hz2
  have hf := fun j hj => atN_facts h1 h3 h5 hz1 hz2 j hj
  refine ⟨h1, h2, h3, h4, h5, ?_, hf, fun j hj => ?_⟩
  · have : 2 ^ (x' * y') ≤ 2 ^ 9 := Nat.pow_le_pow_right (by decide) h5
    omega
  · have h6 := wdN_length (x := x') (y := y') (z := z') (fun j hj => ((hf j (by omega)).2 hj).2) j hj
    have h7 : (y' + 1) * j ≤ 11 * 10 := Nat.mul_le_mul (by omega) (by omega)
    omega
set_option maxHeartbeats 3200000 in
theorem obWord_any (x y z : Nat) (w : World) (h : okOb x y z = true) :
    Calls Try.prog 51 #[.int .i64 x, .int .i64 y, .int .i64 z] w fun r w' => r = .returned (.string (wB (wordL x y z))) ∧ Below w.heap.size w w' := by
  have HW := hid (IW.of h)
  have hx1 := HW.out.x1
  have hx10 := HW.out.x10
  have hy10 := HW.out.y10
  have hz9 := HW.out.z9
  clear h
  have HE : Hid (Value.string { data := #[] } = Value.string (wB [])) := hid rfl
  go_enter Try.func51, Try.ntmps51
  go_wp2
  go_loopw [7, 8, 9] (fun s a r wr => ∃ (j : Nat) (ri : Int) (k : Nat) (l : List UInt8), j ≤ x ∧ s = .string (wB l) ∧ a = .int .i64 k ∧ r = .int .i64 ri ∧ Hid (ri = (x : Int) - 1 - j) ∧ Hid (wdN x y z j = l) ∧ Hid (atN x y z j = k) ∧ Below w.heap.size w wr) (fun _ _ r _ => (intOf r + 1).toNat)
  case atStart => exact ⟨0, _, 0, [], Nat.zero_le _, HE.out, rfl, rfl, hid (by simp), hid rfl, hid rfl, Below.refl _ _⟩
  case round =>
    obtain ⟨j, ri, k, l, hj, rfl, rfl, rfl, HR, HL, HK, hb⟩ := hrel
    have HB := hid hb
    clear hb
    by_cases hlt : j < x
    · obtain ⟨f1, f2⟩ := HW.out.facts j hj
      obtain ⟨f3, f4⟩ := f2 hlt
      have hll := HW.out.len j hj
      obtain ⟨r, hr⟩ : ∃ r, x - 1 - j = r := ⟨_, rfl⟩
      have hri : ri = (r : Int) := by rw [HR.out]; omega
      rw [HK.out] at f1 f3
      rw [HL.out] at hll
      rw [hr] at f3 f4
      obtain ⟨m, hm⟩ : ∃ m, y * r = m := ⟨_, rfl⟩
      have hm10 : m ≤ 100 := by rw [← hm]; exact Nat.le_trans (Nat.mul_le_mul hy10 (show r ≤ 10 by omega)) (by omega)
      have hm63 : m < 64 := by
        have h1 : y * (r + 1) ≤ y * x := Nat.mul_le_mul_left y (by omega)
        have h2 := HW.out.xy
        rw [Nat.mul_comm y x, Nat.mul_succ, hm] at h1
        omega
      obtain ⟨d, hd⟩ : ∃ d, z / 2 ^ m = d := ⟨_, rfl⟩
      have hdz : d ≤ z := by rw [← hd]; exact Nat.div_le_self _ _
      obtain ⟨q, hq⟩ : ∃ q, 2 ^ y - 1 = q := ⟨_, rfl⟩
      obtain ⟨P, hP⟩ : ∃ P, 2 ^ y = P := ⟨_, rfl⟩
      have hP1 := two_pow_le y hy10
      rw [hP] at hP1
      have hqP : P - 1 = q := by rw [← hP]; exact hq
      have hq10 : q < 1024 := by omega
      obtain ⟨t, ht⟩ : ∃ t, d &&& q = t := ⟨_, rfl⟩
      have ht2 : t = z / 2 ^ (y * r) % 2 ^ y := by rw [← ht, ← hq, and_mod, ← hd, ← hm]
      have ht10 : t < 1024 := by rw [← ht]; exact Nat.lt_of_le_of_lt Nat.and_le_left (by omega)
      have hsz : pc t = rowSz y z r := by unfold rowSz; rw [ht2]
      obtain ⟨n, hn⟩ : ∃ n, rowSz y z r = n := ⟨_, rfl⟩
      rw [hn] at f3 f4 hsz
      have HN := hid hn
      have HRr := hid hr
      have HSz := hid (fun W => obSize_any t W ht10)
      rw [hsz] at HSz
      have han := i64_and_nat d q (by omega) (by omega)
      rw [ht] at han
      have hmI : ((y : Int) * (r : Int)) = (m : Int) := by rw [← hm]; simp
      have hdI : ((z : Int) / 2 ^ m) = (d : Int) := by rw [← hd]; simp
      have hwm : IntKind.i64.wrap (m : Int) = (m : Int) := IntWalk.i64_in _ (by omega)
      have hmin : min m 64 = m := Nat.min_eq_left (by omega)
      have eP : ((2 : Int) ^ y) = (P : Int) := by rw [← hP]; simp
      have wp3 : (P : Int) - 1 = (q : Int) := by omega
      have wp4 : IntKind.i64.wrap (P : Int) = (P : Int) := IntWalk.i64_in _ (by omega)
      have wp5 : IntKind.i64.wrap (q : Int) = (q : Int) := IntWalk.i64_in _ (by omega)
      have HStep : Hid (wdN x y z (j + 1) = l ++ (List.replicate (n - k) 82 ++ [85])) := hid (by simp only [wdN, HL.out, HK.out, HRr.out, HN.out])
      have HAt : Hid (atN x y z (j + 1) = n) := hid (by simp only [atN, HRr.out, HN.out])
      have HR1 : Hid ((r : Int) - 1 = (x : Int) - 1 - ((j + 1 : Nat) : Int)) := hid (by have := HRr.out; omega)
      have hr10 : r ≤ 10 := by omega
      subst hri
      clear hr hm hd hq ht ht2 hn hsz hP hqP hP1
      go_wp2_with fail
      go_quiet ((go_at_call 81; exact Calls.quiet_of_same ((HSz.out _).mono fun _ _ ⟨a, b⟩ => ⟨a, b.symm⟩)))
      clear hmI hdI hwm hmin eP wp3 wp4 wp5 han
      go_wp2
      go_loopw [7, 8] (fun s a wi => ∃ (i : Nat) (l2 : List UInt8), k ≤ i ∧ i ≤ n ∧ s = .string (wB l2) ∧ a = .int .i64 i ∧ Hid (l ++ List.replicate (i - k) 82 = l2) ∧ Below w.heap.size w wi) (fun _ a _ => n - (intOf a).toNat)
      case atStart => exact ⟨k, l, Nat.le_refl _, f3, rfl, rfl, hid (by simp), below_drewN HB.out _⟩
      case round =>
        obtain ⟨i, l2, hi1, hi2, rfl, rfl, HL2, hb⟩ := hrel
        have HBi := hid hb
        clear hb
        have hl2 : l2.length ≤ 900 := by rw [← HL2.out, List.length_append, List.length_replicate]; omega
        by_cases hin : i < n
        · have hadd := run_wB1 l2 82 hl2 wr
          have HN2 : Hid (l ++ List.replicate (i + 1 - k) 82 = l2 ++ [82]) := hid (by
            rw [← HL2.out, List.append_assoc, show i + 1 - k = i - k + 1 by omega, List.replicate_succ'])
          obtain ⟨l3, hl3⟩ : ∃ l3, l2 ++ [(82 : UInt8)] = l3 := ⟨_, rfl⟩
          rw [hl3] at hadd HN2
          clear hl3 hl2
          go_wp2
          clear hadd
          go_roundw
          case rel => exact ⟨i + 1, l3, by omega, by omega, rfl, by go_num, HN2, HBi.out⟩
          case measure => simp [intOf]; omega
        · obtain rfl : i = n := by omega
          have hadd := run_wB1 l2 85 hl2 wr
          have HN2 : Hid (wdN x y z (j + 1) = l2 ++ [85]) := hid (by rw [HStep.out, ← HL2.out, List.append_assoc])
          obtain ⟨l3, hl3⟩ : ∃ l3, l2 ++ [(85 : UInt8)] = l3 := ⟨_, rfl⟩
          rw [hl3] at hadd HN2
          clear hl3 hl2
          go_wp2
          clear hadd
          go_roundw
          case rel => exact ⟨j + 1, (r : Int) - 1, i, l3, by omega, rfl, rfl, rfl, HR1, HN2, HAt, HBi.out⟩
          case measure => simp [intOf]
    · obtain rfl : j = x := by omega
      obtain ⟨f1, -⟩ := HW.out.facts j hj
      rw [HK.out] at f1
      have hll := HW.out.len j hj
      rw [HL.out] at hll
      have hneg : ¬ 0 ≤ ri := by have := HR.out; omega
      go_wp2
      clear hneg
      go_loopw [7, 8] (fun s a wi => ∃ (i : Nat) (l2 : List UInt8), k ≤ i ∧ i ≤ y ∧ s = .string (wB l2) ∧ a = .int .i64 i ∧ Hid (l ++ List.replicate (i - k) 82 = l2) ∧ Below w.heap.size w wi) (fun _ a _ => y - (intOf a).toNat)
      case atStart => exact ⟨k, l, Nat.le_refl _, f1, rfl, rfl, hid (by simp), HB.out⟩
      case round =>
        obtain ⟨i, l2, hi1, hi2, rfl, rfl, HL2, hb⟩ := hrel
        have HBi := hid hb
        clear hb
        have hl2 : l2.length ≤ 900 := by rw [← HL2.out, List.length_append, List.length_replicate]; omega
        by_cases hin : i < y
        · have hadd := run_wB1 l2 82 hl2 wr
          have HN2 : Hid (l ++ List.replicate (i + 1 - k) 82 = l2 ++ [82]) := hid (by
            rw [← HL2.out, List.append_assoc, show i + 1 - k = i - k + 1 by omega, List.replicate_succ'])
          obtain ⟨l3, hl3⟩ : ∃ l3, l2 ++ [(82 : UInt8)] = l3 := ⟨_, rfl⟩
          rw [hl3] at hadd HN2
          clear hl3 hl2
          go_wp2
          clear hadd
          go_roundw
          case rel => exact ⟨i + 1, l3, by omega, by omega, rfl, by go_num, HN2, HBi.out⟩
          case measure => simp [intOf]; omega
        · obtain rfl : i = y := by omega
          have HF : Hid (wordL j i z = l2) := hid (by unfold wordL; rw [HL.out, HK.out]; exact HL2.out)
          clear hl2
          go_wp2
          go_ret
          exact ⟨ret_str (by rw [HF.out]), HBi.out⟩
theorem specIdealWord_any (a b s : Int) (w : World) (wa : (Lit.int .i64 a).wf = true) (wb : (Lit.int .i64 b).wf = true) (ws : (Lit.int .i64 s).wf = true) :
    Calls Try.prog 18 #[.int .i64 a, .int .i64 b, .int .i64 s] w fun r w' => r = .returned (.tuple #[.string (ansIW a b s), .bool (okOb a b s)]) ∧ Below w.heap.size w w' := by
  have HT := hid (obIdeal_any a b s w wa wb)
  clear wa wb ws
  cases hs : okOb a b s
  · have HN := hid (ansIW_no hs)
    rw [hs] at HT
    clear hs
    go_enter Try.func18, Try.ntmps18
    go_wp2_with fail
    refine HT.out.mono ?_
    rintro e w1 ⟨rfl, hb⟩
    have HB := hid hb
    clear hb
    go_wp2
    go_ret2
    exact ⟨ret_tb HN.out.symm rfl, HB.out⟩
  · rw [hs] at HT
    obtain ⟨x, y, z, rfl, rfl, rfl, -⟩ := okOb_all hs
    have HA := hid (ansIW_yes hs)
    have HO := hid hs
    clear hs
    go_enter Try.func18, Try.ntmps18
    go_wp2_with fail
    refine HT.out.mono ?_
    rintro e w1 ⟨rfl, hb⟩
    have HB := hid hb
    clear hb
    go_wp2_with fail
    refine (obWord_any x y z _ HO.out).mono ?_
    rintro e w2 ⟨rfl, hb⟩
    have HB2 := hid (below_to HB.out hb)
    clear hb
    go_wp2
    go_ret2
    exact ⟨ret_tb HA.out.symm rfl, HB2.out⟩
theorem repeatR_any (c : Nat) (w : World) (hc : c ≤ 1000) :
    Calls Try.prog 54 #[.string ⟨#[82]⟩, .int .i64 c] w fun r w' => r = .returned (.string (wB (List.replicate c 82))) ∧ Below w.heap.size w w' :=
  (Try.strings_Repeat ⟨#[82]⟩ c w (by omega) (by show 1 * c ≤ _; omega)).mono fun e w' ⟨h1, h2⟩ => ⟨by
    rw [h1]
    have e1 : (ByteArray.mk #[82]).data.toList = List.replicate 1 82 := rfl
    rw [e1, Lib.repeatL_replicate, Nat.mul_one]; rfl, h2⟩
set_option maxHeartbeats 3200000 in
theorem implIdealWord_any (a b s : Int) (w : World) (wa : (Lit.int .i64 a).wf = true) (wb : (Lit.int .i64 b).wf = true) (ws : (Lit.int .i64 s).wf = true) :
    Calls Try.prog 19 #[.int .i64 a, .int .i64 b, .int .i64 s] w fun r w' => r = .returned (.tuple #[.string (ansIW a b s), .bool (okOb a b s)]) ∧ Below w.heap.size w w' := by
  have HT := hid (rectangleWithin_any a b w wa wb)
  have HE : Hid (Value.string { data := #[] } = Value.string (wB [])) := hid rfl
  clear wa wb ws
  go_enter Try.func19, Try.ntmps19
  go_wp2_with fail
  refine HT.out.mono ?_
  rintro e w1 ⟨u, rfl, ho, hl, hb⟩
  obtain ⟨uA, un, uc, rfl⟩ := ho.shape3
  have HB := hid (below_alloc hb (.cells #[.slice uA un uc] 38))
  have HV := hid (ho.ints.alloc (.cells #[.slice uA un uc] 38))
  have HAt := hid (At.new w1 (.slice uA un uc) 38)
  have hbx := HAt.out.1
  clear ho hb
  cases hs : sides9 a b
  · have HO := hid (okOb_no1 (s := s) hs)
    have HN := hid (ansIW_no HO.out)
    clear hs
    go_wp2
    go_ret2
    exact ⟨ret_tb HN.out.symm HO.out.symm, HB.out⟩
  · have HS := hid hs
    rw [rect9_yes hs] at HV hl
    clear hs
    go_wp2_with fail
    refine (hasIdeal_any _ (rectL a b) s _ HV.out hl).mono ?_
    rintro e w2 ⟨rfl, hb⟩
    have HB2 := hid (below_to HB.out hb)
    clear hb hbx
    cases hi : okIdeal (rectL a b) s
    · have HO := hid (okOb_no2 (a := a) (b := b) hi)
      have HN := hid (ansIW_no HO.out)
      clear hi
      go_wp2
      go_ret2
      exact ⟨ret_tb HN.out.symm HO.out.symm, HB2.out⟩
    · have HO := hid (okOb_yes HS.out hi)
      clear hi
      obtain ⟨x, y, z, rfl, rfl, rfl, -⟩ := okOb_all HO.out
      have HA := hid (ansIW_yes HO.out)
      have HW := hid (IW.of HO.out)
      have hx1 := HW.out.x1
      have hx10 := HW.out.x10
      have hy10 := HW.out.y10
      have hz9 := HW.out.z9
      go_wp2
      go_loopw [10, 11, 12] (fun s a r wr => ∃ (j : Nat) (ri : Int) (k : Nat) (l : List UInt8), j ≤ x ∧ s = .string (wB l) ∧ a = .int .i64 k ∧ r = .int .i64 ri ∧ Hid (ri = (x : Int) - 1 - j) ∧ Hid (wdN x y z j = l) ∧ Hid (atN x y z j = k) ∧ Below w.heap.size w wr) (fun _ _ r _ => (intOf r + 1).toNat)
      case atStart => exact ⟨0, _, 0, [], Nat.zero_le _, HE.out, rfl, rfl, hid (by simp), hid rfl, hid rfl, HB2.out⟩
      case round =>
        obtain ⟨j, ri, k, l, hj, rfl, rfl, rfl, HR, HL, HK, hb⟩ := hrel
        have HBr := hid hb
        clear hb
        by_cases hlt : j < x
        · obtain ⟨f1, f2⟩ := HW.out.facts j hj
          obtain ⟨f3, f4⟩ := f2 hlt
          have hll := HW.out.len j hj
          obtain ⟨r, hr⟩ : ∃ r, x - 1 - j = r := ⟨_, rfl⟩
          have hri : ri = (r : Int) := by rw [HR.out]; omega
          rw [HK.out] at f1 f3
          rw [HL.out] at hll
          rw [hr] at f3 f4
          obtain ⟨m, hm⟩ : ∃ m, y * r = m := ⟨_, rfl⟩
          have hm63 : m < 64 := by
            have h1 : y * (r + 1) ≤ y * x := Nat.mul_le_mul_left y (by omega)
            have h2 := HW.out.xy
            rw [Nat.mul_comm y x, Nat.mul_succ, hm] at h1
            omega
          obtain ⟨d, hd⟩ : ∃ d, z / 2 ^ m = d := ⟨_, rfl⟩
          have hdz : d ≤ z := by rw [← hd]; exact Nat.div_le_self _ _
          obtain ⟨q, hq⟩ : ∃ q, 2 ^ y - 1 = q := ⟨_, rfl⟩
          have hq10 : q < 1024 := by have := two_pow_le y hy10; omega
          obtain ⟨t, ht⟩ : ∃ t, d &&& q = t := ⟨_, rfl⟩
          have ht2 : t = z / 2 ^ (y * r) % 2 ^ y := by rw [← ht, ← hq, and_mod, ← hd, ← hm]
          have ht10 : t < 1024 := by rw [← ht]; exact Nat.lt_of_le_of_lt Nat.and_le_left (by omega)
          have hsz : pc t = rowSz y z r := by unfold rowSz; rw [ht2]
          obtain ⟨n, hn⟩ : ∃ n, rowSz y z r = n := ⟨_, rfl⟩
          rw [hn] at f3 f4 hsz
          have HN := hid hn
          have HRr := hid hr
          have HSz := hid (fun W => sizeOf_any t W ht10)
          rw [hsz] at HSz
          have HWh := hid (fun W => wholeSet_any y hy10 W)
          rw [hq] at HWh
          have han := i64_and_nat d q (by omega) (by omega)
          rw [ht] at han
          have hmI : ((y : Int) * (r : Int)) = (m : Int) := by rw [← hm]; simp
          have hdI : ((z : Int) / 2 ^ m) = (d : Int) := by rw [← hd]; simp
          have hwm : IntKind.i64.wrap (m : Int) = (m : Int) := IntWalk.i64_in _ (by omega)
          have hmin : min m 64 = m := Nat.min_eq_left (by omega)
          obtain ⟨g, hg⟩ : ∃ g, n - k = g := ⟨_, rfl⟩
          have hnk : (n : Int) - (k : Int) = (g : Int) := by omega
          have hg10 : g ≤ 1000 := by omega
          have HRep := hid (fun W => repeatR_any g W hg10)
          have HStep : Hid (wdN x y z (j + 1) = l ++ (List.replicate g 82 ++ [85])) := hid (by simp only [wdN, HL.out, HK.out, HRr.out, HN.out, hg])
          have HAt2 : Hid (atN x y z (j + 1) = n) := hid (by simp only [atN, HRr.out, HN.out])
          have HR1 : Hid ((r : Int) - 1 = (x : Int) - 1 - ((j + 1 : Nat) : Int)) := hid (by have := HRr.out; omega)
          have hr10 : r ≤ 10 := by omega
          have hadd1 := fun W => run_wB1 (List.replicate g 82) 85 (by simp <;> omega) W
          obtain ⟨l2, hl2⟩ : ∃ l2, List.replicate g (82 : UInt8) = l2 := ⟨_, rfl⟩
          obtain ⟨l3, hl3⟩ : ∃ l3, l2 ++ [(85 : UInt8)] = l3 := ⟨_, rfl⟩
          have hadd2 := fun W => run_wB l l3 (by rw [← hl3, ← hl2]; simp <;> omega) W
          obtain ⟨l4, hl4⟩ : ∃ l4, l ++ l3 = l4 := ⟨_, rfl⟩
          rw [hl2] at HRep hadd1 HStep
          rw [hl3] at hadd1 HStep
          rw [hl4] at hadd2 HStep
          have HAdd1 := hid hadd1
          have HAdd2 := hid hadd2
          subst hri
          clear hr hm hd hq ht ht2 hn hsz hg hl2 hl3 hl4 hadd1 hadd2
          go_wp2_with fail
          go_quiet ((first | (go_at_call 52; exact Calls.quiet_of_same ((HSz.out _).mono fun _ _ ⟨a, b⟩ => ⟨a, b.symm⟩)) | (go_at_call 53; exact Calls.quiet_of_same ((HWh.out _).mono fun _ _ ⟨a, b⟩ => ⟨a, b.symm⟩))))
          clear hmI hdI hwm hmin han
          go_wp2_with fail
          clear hnk
          refine (HRep.out _).mono ?_
          rintro e w3 ⟨rfl, hb3⟩
          have HB3 := hid (below_to (below_drewN HBr.out _) hb3)
          clear hb3
          have hadd1 := HAdd1.out
          have hadd2 := HAdd2.out
          go_wp2
          clear hadd1 hadd2
          go_roundw
          case rel => exact ⟨j + 1, (r : Int) - 1, n, l4, by omega, rfl, rfl, rfl, HR1, HStep, HAt2, HB3.out⟩
          case measure => simp [intOf]
        · obtain rfl : j = x := by omega
          obtain ⟨f1, -⟩ := HW.out.facts j hj
          rw [HK.out] at f1
          have hll := HW.out.len j hj
          rw [HL.out] at hll
          have hneg : ¬ 0 ≤ ri := by have := HR.out; omega
          obtain ⟨g, hg⟩ : ∃ g, y - k = g := ⟨_, rfl⟩
          have hnk : (y : Int) - (k : Int) = (g : Int) := by omega
          have hg10 : g ≤ 1000 := by omega
          have HRep := hid (fun W => repeatR_any g W hg10)
          have HF : Hid (wordL j y z = l ++ List.replicate g 82) := hid (by unfold wordL; rw [HL.out, HK.out, hg])
          have hadd2 := fun W => run_wB l (List.replicate g 82) (by simp <;> omega) W
          obtain ⟨l2, hl2⟩ : ∃ l2, List.replicate g (82 : UInt8) = l2 := ⟨_, rfl⟩
          obtain ⟨l4, hl4⟩ : ∃ l4, l ++ l2 = l4 := ⟨_, rfl⟩
          rw [hl2] at HRep hadd2 HF
          rw [hl4] at hadd2 HF
          have HAdd2 := hid hadd2
          clear hg hl2 hl4 hadd2
          go_wp2_with fail
          clear hnk hneg
          refine (HRep.out _).mono ?_
          rintro e w3 ⟨rfl, hb3⟩
          have HB3 := hid (below_to HBr.out hb3)
          clear hb3
          have hadd2 := HAdd2.out
          go_wp2
          go_ret2
          exact ⟨ret_tb (by rw [HA.out, HF.out]) HO.out.symm, HB3.out⟩
end Go.Proofs.Ytkcjppbplllaiab
