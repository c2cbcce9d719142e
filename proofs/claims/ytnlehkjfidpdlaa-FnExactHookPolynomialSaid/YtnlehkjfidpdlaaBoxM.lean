/- Polynomials that are multiplied by 1 - q^k, and divided by it, in place. -/
import Derived.Test.YtnlehkjfidpdlaaBoxI
namespace Go.Proofs.Ytnlehkjfidpdlaa
open Go.RowKit Go.WideShapes Go.ChangeShapes
set_option linter.unusedVariables false

def mulN (l : List Int) (k : Nat) : Nat → List Int
  | 0 => l
  | t + 1 => (mulN l k t).set (l.length - 1 - t) (IntKind.i64.wrap ((mulN l k t).getD (l.length - 1 - t) 0 - (mulN l k t).getD (l.length - 1 - t - k) 0))
def divN (l : List Int) (k : Nat) : Nat → List Int
  | 0 => l
  | t + 1 => (divN l k t).set (k + t) (IntKind.i64.wrap ((divN l k t).getD (k + t) 0 + (divN l k t).getD t 0))
def mulL (l : List Int) (k : Nat) : List Int := mulN l k (l.length - k)
def divL (l : List Int) (k : Nat) : List Int := divN l k (l.length - k)
theorem mulN_length (l : List Int) (k t : Nat) : (mulN l k t).length = l.length := by
  induction t with
  | zero => rfl
  | succ t ih => rw [mulN, List.length_set, ih]
theorem divN_length (l : List Int) (k t : Nat) : (divN l k t).length = l.length := by
  induction t with
  | zero => rfl
  | succ t ih => rw [divN, List.length_set, ih]
theorem mulL_length (l : List Int) (k : Nat) : (mulL l k).length = l.length := mulN_length _ _ _
theorem divL_length (l : List Int) (k : Nat) : (divL l k).length = l.length := divN_length _ _ _
theorem mulN_step {l : List Int} {k t e j L : Nat} {x y z : Int} (hl : l.length = L) (he : L - 1 - t = e) (hj : e - k = j) (hx : (mulN l k t).getD e 0 = x) (hy : (mulN l k t).getD j 0 = y) (hz : IntKind.i64.wrap (x - y) = z) : mulN l k (t + 1) = (mulN l k t).set e z := by
  rw [mulN, hl, he, hj, hx, hy, hz]
theorem divN_step {l : List Int} {k t e : Nat} {x y z : Int} (he : k + t = e) (hx : (divN l k t).getD e 0 = x) (hy : (divN l k t).getD t 0 = y) (hz : IntKind.i64.wrap (x + y) = z) : divN l k (t + 1) = (divN l k t).set e z := by
  rw [divN, he, hx, hy, hz]
set_option maxHeartbeats 800000 in
theorem multiply_any (g L c k : Nat) (l : List Int) (w : World) (hb : Blk w g 3 (Vals l)) (hl : l.length = L) (hL : L ≤ 1000) (hk : k ≤ 1000) :
    Calls Try.prog 52 #[.slice (some ⟨g, 0, none⟩) L c, .int .i64 k] w fun (r : Ending) w' => r = Ending.returned (.tuple #[]) ∧ Blk w' g 3 (Vals (mulL l k)) ∧ Below g w w' := by
  have HB0 := hid hb
  have HL := hid hl
  have hsub : IntKind.i64.wrap ((L : Int) - 1) = (L : Int) - 1 := IntWalk.i64_in _ (by omega)
  clear hb hl
  go_enter Try.func52, Try.ntmps52
  go_wp2
  clear hsub
  go_loopw [4] (fun i wr => ∃ (t : Nat) (q : Int), i = .int .i64 q ∧ q + 1 + t = L ∧ t ≤ L - k ∧ Blk wr g 3 (Vals (mulN l k t)) ∧ Below g w wr) (fun i _ => (intOf i + 1).toNat)
  case atStart => exact ⟨0, (L : Int) - 1, rfl, by omega, Nat.zero_le _, HB0.out, Below.refl _ _⟩
  case round =>
    obtain ⟨t, q, rfl, hq, ht, hB, hb⟩ := hrel
    have HB := hid hB
    have Hb := hid hb
    clear hB hb
    by_cases hlt : t < L - k
    · obtain ⟨e, rfl⟩ := Int.eq_ofNat_of_zero_le (show 0 ≤ q by omega)
      obtain ⟨j, hj⟩ : ∃ j, e - k = j := ⟨_, rfl⟩
      have heL : e < L := by omega
      have hjL : j < L := by omega
      have he : L - 1 - t = e := by omega
      have hke : (k : Int) ≤ (e : Int) := by omega
      have hx : wr.cell? ⟨g, e, none⟩ = some (.int .i64 ((mulN l k t).getD e 0)) := by rw [HB.out.cell, Vals_get (by rw [mulN_length, HL.out]; exact heL)]
      have hy : wr.cell? ⟨g, j, none⟩ = some (.int .i64 ((mulN l k t).getD j 0)) := by rw [HB.out.cell, Vals_get (by rw [mulN_length, HL.out]; exact hjL)]
      have hfz := HB.out.frozen e
      have HSt := hid (fun x y z => mulN_step (x := x) (y := y) (z := z) (k := k) HL.out he hj)
      obtain ⟨x, hxe⟩ : ∃ x, (mulN l k t).getD e 0 = x := ⟨_, rfl⟩
      obtain ⟨y, hye⟩ : ∃ y, (mulN l k t).getD j 0 = y := ⟨_, rfl⟩
      rw [hxe] at hx
      rw [hye] at hy
      have HS2 := hid (fun z => HSt.out x y z hxe hye)
      have hjw : IntKind.i64.wrap ((e : Int) - (k : Int)) = (j : Int) := by rw [IntWalk.i64_in _ (by omega)]; omega
      have hew : IntKind.i64.wrap ((e : Int) - 1) = (e : Int) - 1 := IntWalk.i64_in _ (by omega)
      have HQ : Hid ((e : Int) - 1 + 1 + ((t + 1 : Nat) : Int) = L) := hid (by omega)
      have ht2 : t + 1 ≤ L - k := by omega
      clear hxe hye hj he hq HSt
      obtain ⟨z, hz⟩ : ∃ z, IntKind.i64.wrap (x - y) = z := ⟨_, rfl⟩
      have HS3 := hid (HS2.out z hz)
      go_wp2
      go_region
      clear hjw hz
      go_wp2
      clear hew
      go_roundw
      case rel => exact ⟨t + 1, (e : Int) - 1, by go_num, HQ.out, ht2, (by rw [HS3.out, ← Vals_set]; exact HB.out.set_ e (.int .i64 z)), below_drewN (Hb.out.setCell (p := ⟨g, e, none⟩) (Nat.le_refl _) _) 1⟩
      case measure => simp [intOf]; try omega
    · have hlt2 : ¬ (k : Int) ≤ q := by omega
      have HE : Hid (mulN l k t = mulL l k) := hid (by unfold mulL; rw [HL.out, show t = L - k by omega])
      clear hq ht hlt
      go_wp2
      go_end0
      exact ⟨rfl, by rw [← HE.out]; exact HB.out, Hb.out⟩
set_option maxHeartbeats 800000 in
theorem divide_any (g L c k : Nat) (l : List Int) (w : World) (hb : Blk w g 3 (Vals l)) (hl : l.length = L) (hL : L ≤ 1000) (hk : k ≤ 1000) :
    Calls Try.prog 53 #[.slice (some ⟨g, 0, none⟩) L c, .int .i64 k] w fun (r : Ending) w' => r = Ending.returned (.tuple #[]) ∧ Blk w' g 3 (Vals (divL l k)) ∧ Below g w w' := by
  have HB0 := hid hb
  have HL := hid hl
  clear hb hl
  go_enter Try.func53, Try.ntmps53
  go_wp2
  go_loopw [4] (fun i wr => ∃ (t e : Nat), i = .int .i64 e ∧ k + t = e ∧ t ≤ L - k ∧ Blk wr g 3 (Vals (divN l k t)) ∧ Below g w wr) (fun i _ => L - (intOf i).toNat)
  case atStart => exact ⟨0, k, rfl, Nat.add_zero k, Nat.zero_le _, HB0.out, Below.refl _ _⟩
  case round =>
    obtain ⟨t, e, rfl, he, ht, hB, hb⟩ := hrel
    have HB := hid hB
    have Hb := hid hb
    clear hB hb
    by_cases hlt : t < L - k
    · have heL : e < L := by omega
      have hjL : t < L := by omega
      have hx : wr.cell? ⟨g, e, none⟩ = some (.int .i64 ((divN l k t).getD e 0)) := by rw [HB.out.cell, Vals_get (by rw [divN_length, HL.out]; exact heL)]
      have hy : wr.cell? ⟨g, t, none⟩ = some (.int .i64 ((divN l k t).getD t 0)) := by rw [HB.out.cell, Vals_get (by rw [divN_length, HL.out]; exact hjL)]
      have hfz := HB.out.frozen e
      have HSt := hid (fun x y z => divN_step (l := l) (x := x) (y := y) (z := z) he)
      obtain ⟨x, hxe⟩ : ∃ x, (divN l k t).getD e 0 = x := ⟨_, rfl⟩
      obtain ⟨y, hye⟩ : ∃ y, (divN l k t).getD t 0 = y := ⟨_, rfl⟩
      rw [hxe] at hx
      rw [hye] at hy
      have HS2 := hid (fun z => HSt.out x y z hxe hye)
      have hjw : IntKind.i64.wrap ((e : Int) - (k : Int)) = (t : Int) := by rw [IntWalk.i64_in _ (by omega)]; omega
      have HQ : Hid (k + (t + 1) = e + 1) := hid (by omega)
      have ht2 : t + 1 ≤ L - k := by omega
      have heI : (e : Int) < (L : Int) := by omega
      clear hxe hye he HSt
      obtain ⟨z, hz⟩ : ∃ z, IntKind.i64.wrap (x + y) = z := ⟨_, rfl⟩
      have HS3 := hid (HS2.out z hz)
      go_wp2
      go_region
      clear hjw hz
      go_wp2
      go_roundw
      case rel => exact ⟨t + 1, e + 1, by go_num, HQ.out, ht2, (by rw [HS3.out, ← Vals_set]; exact HB.out.set_ e (.int .i64 z)), below_drewN (Hb.out.setCell (p := ⟨g, e, none⟩) (Nat.le_refl _) _) 1⟩
      case measure => simp [intOf]; try omega
    · have hlt2 : ¬ (e : Int) < (L : Int) := by omega
      have HE : Hid (divN l k t = divL l k) := hid (by unfold divL; rw [HL.out, show t = L - k by omega])
      clear he ht hlt
      go_wp2
      go_end0
      exact ⟨rfl, by rw [← HE.out]; exact HB.out, Hb.out⟩
theorem made0 {L : Nat} (h : 0 < L) : (madeCells #[Value.int IntKind.i64 0] L)[0]? = some (Value.int IntKind.i64 0) := by
  have e : (List.replicate L (0 : Int)).getD 0 0 = 0 := by
    unfold List.getD; rw [List.getElem?_replicate]; split <;> rfl
  rw [Vals_made, Vals_get (by rw [List.length_replicate]; exact h), e]
/-- the coefficients after the first e elements -/
def bsN (y m L : Nat) : Nat → List Int
  | 0 => (List.replicate L 0).set 0 1
  | e + 1 => divL (mulL (bsN y m L e) (lvN y e + m)) (lvN y e)
theorem bsN_length (y m L e : Nat) : (bsN y m L e).length = L := by
  induction e with
  | zero => simp [bsN]
  | succ e ih => rw [bsN, divL_length, mulL_length, ih]
def ansBS (a b m : Int) : List Int := if boxB a b m then bsN b.toNat m.toNat (a.toNat * b.toNat * m.toNat + 1) (a.toNat * b.toNat) else []
theorem ansBS_no {a b m : Int} (h : boxB a b m = false) : ansBS a b m = [] := by simp [ansBS, h]
theorem ansBS_yes {x y m : Nat} (h : boxB x y m = true) : ansBS x y m = bsN y m (x * y * m + 1) (x * y) := by
  unfold ansBS; rw [if_pos h]; simp
theorem box_len {n m : Nat} (hn : n ≤ 10) (hm : m ≤ 12) : n * m ≤ 120 := Nat.mul_le_mul hn hm
theorem ansBS_length (a b m : Int) : (ansBS a b m).length ≤ 1048576 := by
  cases h : boxB a b m
  · rw [ansBS_no h]; simp
  · obtain ⟨hsd, hbd⟩ := boxB_all h
    obtain ⟨x, y, rfl, rfl, h1, h2, h3, h4, h5⟩ := sides_nat hsd
    obtain ⟨m0, m1⟩ := bdB_all hbd
    obtain ⟨M, rfl⟩ := Int.eq_ofNat_of_zero_le m0
    rw [ansBS_yes h, bsN_length]
    have := box_len h5 (show M ≤ 12 by omega)
    omega
end Go.Proofs.Ytnlehkjfidpdlaa
