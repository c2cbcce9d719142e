/- The model's cursor of draws: next, pick, one, among. What is drawn is not told, only that it is a number of its range. -/
import Derived.Test.YtclhebpkpmholaaNest
import Derived.Test.YtclhebpkpmholaaBval
import Derived.Deep.RegionHeld3
namespace Go.Proofs.Ytclhebpkpmholaa
open Go.RowKit Go.WideShapes Go.ChangeShapes
set_option linter.unusedVariables false

/-- a slice of bytes in blocks below B -/
def BytesB (w : World) (B : Nat) (v : Value) (xs : List Int) : Prop :=
  ∃ A c, v = .slice A xs.length c ∧ (∀ j, 0 ≤ xs.getD j 0 ∧ xs.getD j 0 < 256) ∧ (xs ≠ [] → ∃ b o, A = some ⟨b, o, none⟩ ∧ b < B ∧ b < w.heap.size ∧ ∀ j, j < xs.length → w.cell? ⟨b, o + j, none⟩ = some (.int .u8 (xs.getD j 0)))
theorem BytesB.turned {w w' : World} {B E : Nat} {v : Value} {xs : List Int} (h : BytesB w B v xs) (ht : TurnedIn B E w w') : BytesB w' B v xs := by
  obtain ⟨A, c, rfl, hr, h⟩ := h
  refine ⟨A, c, rfl, hr, fun hx => ?_⟩
  obtain ⟨b, o, rfl, h1, h2, hc⟩ := h hx
  exact ⟨b, o, rfl, h1, Nat.lt_of_lt_of_le h2 ht.size, fun j hj => (World.cell?_of_block (a := ⟨b, o + j, none⟩) (ht.block b h2 (Or.inl h1))).trans (hc j hj)⟩
/-- the cursor in block g, that has taken at most A bytes -/
def Cur (w : World) (g A : Nat) : Prop :=
  ∃ (v : Value) (xs : List Int) (k : Nat) (z : Int), BytesB w g v xs ∧ xs.length ≤ 1048576 ∧ k ≤ A ∧ 0 ≤ z ∧ z < 18446744073709551616 ∧ Blk w g 74 #[v, .int .i64 k, .int .u64 z]
theorem Cur.le {w : World} {g A B : Nat} (h : Cur w g A) (hb : A ≤ B) : Cur w g B := by
  obtain ⟨v, xs, k, z, h1, h2, h3, h4⟩ := h
  exact ⟨v, xs, k, z, h1, h2, Nat.le_trans h3 hb, h4⟩
theorem Cur.lt {w : World} {g A : Nat} (h : Cur w g A) : g < w.heap.size := by
  obtain ⟨v, xs, k, z, h1, h2, h3, h4, h5, h6⟩ := h
  exact h6.lt
theorem Cur.below {w w' : World} {g A : Nat} (h : Cur w g A) (hb : Below w.heap.size w w') : Cur w' g A := by
  have hl := h.lt
  obtain ⟨v, xs, k, z, h1, h2, h3, h4, h5, h6⟩ := h
  exact ⟨v, xs, k, z, h1.turned (TurnedIn.of_below (E := 0) hb), h2, h3, h4, h5, h6.below hb hl⟩
theorem and255 (x : Int) (h1 : 0 ≤ x) (h2 : x < 18446744073709551616) : ∃ n : Nat, n < 256 ∧ bits .and .u64 x 255 = (n : Int) := by
  refine ⟨x.toNat &&& 255, ?_, u64_and x 255 h1 h2 (by decide) (by decide)⟩
  exact Nat.lt_of_le_of_lt Nat.and_le_right (by decide)
theorem u64_range (x : Int) : 0 ≤ IntKind.u64.wrap x ∧ IntKind.u64.wrap x < 18446744073709551616 := by
  rw [IntKind.wrap_u64]; omega
theorem mid1 {w : World} {g : Nat} {T : TypeId} {v a0 z0 : Value} (h : Blk w g T #[v, a0, z0]) (a z : Value) (n : Nat) :
    Blk (((w.setCell ⟨g, 1, none⟩ a).setCell ⟨g, 2, none⟩ z).drewN n) g T #[v, a, z] ∧ TurnedIn g (g + 1) w (((w.setCell ⟨g, 1, none⟩ a).setCell ⟨g, 2, none⟩ z).drewN n) :=
  ⟨((h.set_ 1 a).set_ 2 z).below (below_drewN (Below.refl _ _) n) (by simpa [World.setCell] using h.lt),
   ((((TurnedIn.refl g (g + 1) w).set_ ⟨g, 1, none⟩ ⟨Nat.le_refl _, Nat.lt_succ_self _⟩ a).set_ ⟨g, 2, none⟩ ⟨Nat.le_refl _, Nat.lt_succ_self _⟩ z).trans (TurnedIn.of_below (below_drewN (Below.refl _ _) n)))⟩
set_option maxHeartbeats 1600000 in
theorem next_any (g A : Nat) (w : World) (h : Cur w g A) (hA : A < 1099511627776) :
    Calls Try.prog 152 #[.pointer (some ⟨g, 0, none⟩)] w fun (r : Ending) w' => ∃ n : Nat, n < 256 ∧ r = .returned (.int .i64 n) ∧ Cur w' g (A + 1) ∧ TurnedIn g (g + 1) w w' := by
  obtain ⟨v, xs, k, z, ⟨B, c, rfl, hr, hc⟩, hx, hk, hz1, hz2, hb⟩ := h
  have hc0 : w.cell? ⟨g, 0, none⟩ = some (.slice B xs.length c) := by rw [hb.cell]; rfl
  have hc1 : w.cell? ⟨g, 1, none⟩ = some (.int .i64 k) := by rw [hb.cell]; rfl
  have hc2 : w.cell? ⟨g, 2, none⟩ = some (.int .u64 z) := by rw [hb.cell]; rfl
  have hf1 := hb.frozen 1
  have hf2 := hb.frozen 2
  have hlt := hb.lt
  have HB := hid hb
  clear hb
  go_enter Try.func152, Try.ntmps152
  by_cases hkl : k < xs.length
  · obtain ⟨b, o, rfl, hbg, hbl, hcell⟩ := hc (by rintro rfl; simp at hkl)
    have hck := hcell k hkl
    obtain ⟨y, hy⟩ : ∃ y, xs.getD k 0 = y := ⟨_, rfl⟩
    have hry := hr k
    rw [hy] at hck hry
    have HR := hid hr
    have HC := hid hcell
    clear hr hc hcell
    go_wp2
    go_region
    go_wp2
    go_region
    go_wp2
    obtain ⟨Z, hZe⟩ : ∃ Z, IntKind.u64.wrap (IntKind.u64.wrap (IntKind.u64.wrap (z * 6364136223846793005) + y) + 1442695040888963407) = Z := ⟨_, rfl⟩
    have hZ := u64_range (IntKind.u64.wrap (IntKind.u64.wrap (z * 6364136223846793005) + y) + 1442695040888963407)
    rw [hZe] at hZ ⊢
    clear hZe
    obtain ⟨HB3, HT⟩ : Blk ((w.setCell ⟨g, 1, none⟩ (.int .i64 ((k : Int) + 1))).setCell ⟨g, 2, none⟩ (.int .u64 Z)).drew.drew g 74 #[.slice (some ⟨b, o, none⟩) xs.length c, .int .i64 ((k : Int) + 1), .int .u64 Z] ∧ TurnedIn g (g + 1) w ((w.setCell ⟨g, 1, none⟩ (.int .i64 ((k : Int) + 1))).setCell ⟨g, 2, none⟩ (.int .u64 Z)).drew.drew := mid1 HB.out _ _ 2
    generalize ((w.setCell ⟨g, 1, none⟩ (.int .i64 ((k : Int) + 1))).setCell ⟨g, 2, none⟩ (.int .u64 Z)).drew.drew = W at HB3 HT ⊢
    have hd0 : W.cell? ⟨g, 0, none⟩ = some (.slice (some ⟨b, o, none⟩) xs.length c) := by rw [HB3.cell]; rfl
    have hd1 : W.cell? ⟨g, 1, none⟩ = some (.int .i64 ((k : Int) + 1)) := by rw [HB3.cell]; rfl
    have HBw := hid HB3
    have HT2 := hid HT
    clear HB3 HT hc0 hc1 hc2 hf1 hf2 hck
    have hle : ((k : Int) + 1) ≤ (xs.length : Int) := by omega
    go_region
    go_wp2
    go_ret
    refine ⟨y.toNat, by omega, ?_, ⟨_, xs, k + 1, Z, BytesB.turned (w := w) (E := g + 1) ⟨some ⟨b, o, none⟩, c, rfl, HR.out, fun _ => ⟨b, o, rfl, hbg, hbl, HC.out⟩⟩ (HT2.out.trans (TurnedIn.of_below (below_drewN (Below.refl _ _) 1))), hx, by omega, hZ.1, hZ.2, ?_⟩, HT2.out.trans (TurnedIn.of_below (below_drewN (Below.refl _ _) 1))⟩
    · rw [Int.toNat_of_nonneg hry.1]; rfl
    · exact HBw.out.below (below_drewN (Below.refl _ _) 1) HBw.out.lt
  · go_wp2
    go_region
    go_wp2
    obtain ⟨Z, hZe⟩ : ∃ Z, IntKind.u64.wrap (IntKind.u64.wrap (IntKind.u64.wrap (z * 6364136223846793005)) + 1442695040888963407) = Z := ⟨_, rfl⟩
    have hZ := u64_range (IntKind.u64.wrap (IntKind.u64.wrap (z * 6364136223846793005)) + 1442695040888963407)
    rw [hZe] at hZ ⊢
    clear hZe
    obtain ⟨HB3, HT⟩ : Blk ((w.setCell ⟨g, 1, none⟩ (.int .i64 ((k : Int) + 1))).setCell ⟨g, 2, none⟩ (.int .u64 Z)).drew g 74 #[.slice B xs.length c, .int .i64 ((k : Int) + 1), .int .u64 Z] ∧ TurnedIn g (g + 1) w ((w.setCell ⟨g, 1, none⟩ (.int .i64 ((k : Int) + 1))).setCell ⟨g, 2, none⟩ (.int .u64 Z)).drew := mid1 HB.out _ _ 1
    generalize ((w.setCell ⟨g, 1, none⟩ (.int .i64 ((k : Int) + 1))).setCell ⟨g, 2, none⟩ (.int .u64 Z)).drew = W at HB3 HT ⊢
    have hd0 : W.cell? ⟨g, 0, none⟩ = some (.slice B xs.length c) := by rw [HB3.cell]; rfl
    have hd1 : W.cell? ⟨g, 1, none⟩ = some (.int .i64 ((k : Int) + 1)) := by rw [HB3.cell]; rfl
    have hd2 : W.cell? ⟨g, 2, none⟩ = some (.int .u64 Z) := by rw [HB3.cell]; rfl
    have HBw := hid HB3
    have HT2 := hid HT
    have HC := hid hc
    have HR := hid hr
    clear HB3 HT hc0 hc1 hc2 hf1 hf2 hc hr
    have hle : ¬ ((k : Int) + 1) ≤ (xs.length : Int) := by omega
    obtain ⟨n, hn, hne⟩ := and255 (Z / 1099511627776) (by omega) (by omega)
    go_region
    go_wp2
    go_ret
    refine ⟨n, by omega, ?_, ⟨_, xs, k + 1, Z, BytesB.turned (w := w) (E := g + 1) ⟨B, c, rfl, HR.out, HC.out⟩ (HT2.out.trans (TurnedIn.of_below (below_drewN (Below.refl _ _) 1))), hx, by omega, hZ.1, hZ.2, ?_⟩, HT2.out.trans (TurnedIn.of_below (below_drewN (Below.refl _ _) 1))⟩
    · rfl
    · exact HBw.out.below (below_drewN (Below.refl _ _) 1) HBw.out.lt
theorem emod_nat (x : Nat) (n : Int) (hn : 1 < n) : ((x : Int)) % n = ((x % n.toNat : Nat) : Int) := by
  obtain ⟨m, rfl⟩ := Int.eq_ofNat_of_zero_le (show 0 ≤ n by omega)
  rw [Int.toNat_natCast, Int.natCast_emod]
/-- pick n: a number below n, or 0 -/
theorem pick_any (g A : Nat) (n : Int) (w : World) (h : Cur w g A) (hA : A < 1000000000000) :
    Calls Try.prog 115 #[.pointer (some ⟨g, 0, none⟩), .int .i64 n] w fun (r : Ending) w' => ∃ m : Nat, (n ≤ 1 ∧ m = 0 ∨ 1 < n ∧ (m : Int) < n) ∧ r = .returned (.int .i64 m) ∧ Cur w' g (A + 2) ∧ TurnedIn g (g + 1) w w' := by
  have HC := hid h
  clear h
  by_cases hn : n ≤ 1
  · skip
    go_enter Try.func115, Try.ntmps115
    go_wp2
    go_ret
    exact ⟨0, Or.inl ⟨hn, rfl⟩, rfl, HC.out.le (by omega), TurnedIn.refl _ _ _⟩
  · have hn1 : 1 < n := by omega
    go_enter Try.func115, Try.ntmps115
    go_wp2_with fail
    refine (next_any g A _ HC.out (by omega)).mono ?_
    rintro e w1 ⟨x, hx, rfl, hc1, ht1⟩
    have HC1 := hid hc1
    have HT1 := hid ht1
    clear hc1 ht1
    by_cases hb : n ≤ 200
    · have hm := emod_nat x n hn1
      have hmax : max n 0 = n := by omega
      have hlt : ((x % n.toNat : Nat) : Int) < n := by have := Nat.mod_lt x (show 0 < n.toNat by omega); omega
      go_wp2
      go_ret
      exact ⟨x % n.toNat, Or.inr ⟨hn1, hlt⟩, by first | exact ret_int hm | (rw [hmax]; exact ret_int hm), HC1.out.le (by omega), HT1.out⟩
    · go_wp2_with fail
      refine (next_any g (A + 1) _ HC1.out (by omega)).mono ?_
      rintro e w2 ⟨y, hy, rfl, hc2, ht2⟩
      have HC2 := hid hc2
      have HT2 := hid (HT1.out.trans ht2)
      clear hc2 ht2
      have hm : ((x : Int) * 256 + (y : Int)) % n = (((x * 256 + y) % n.toNat : Nat) : Int) := by have := emod_nat (x * 256 + y) n hn1; rwa [Int.natCast_add, Int.natCast_mul] at this
      have hlt : (((x * 256 + y) % n.toNat : Nat) : Int) < n := by have := Nat.mod_lt (x * 256 + y) (show 0 < n.toNat by omega); omega
      go_wp2
      go_ret
      exact ⟨(x * 256 + y) % n.toNat, Or.inr ⟨hn1, hlt⟩, ret_int hm, HC2.out, HT2.out⟩
theorem one_any (g A : Nat) (n : Int) (w : World) (h : Cur w g A) (hA : A < 1000000000000) :
    Calls Try.prog 104 #[.pointer (some ⟨g, 0, none⟩), .int .i64 n] w fun (r : Ending) w' => ∃ b : Bool, r = .returned (.bool b) ∧ Cur w' g (A + 2) ∧ TurnedIn g (g + 1) w w' := by
  have HC := hid h
  clear h
  go_enter Try.func104, Try.ntmps104
  go_wp2_with fail
  refine (pick_any g A n _ HC.out hA).mono ?_
  rintro e w1 ⟨m, -, rfl, hc1, ht1⟩
  go_wp2
  go_ret
  exact ⟨_, rfl, hc1, ht1⟩
theorem among_any (g A : Nat) (v : Value) (xs : List Int) (w : World) (h : Cur w g A) (hA : A < 1000000000000) (hv : ∃ b, Blk w b 3 (xs.map (Value.int .i64)).toArray ∧ b ≠ g ∧ v = .slice (some ⟨b, 0, none⟩) xs.length xs.length) (h0 : 1 ≤ xs.length) (hl : xs.length ≤ 1048576) :
    Calls Try.prog 129 #[.pointer (some ⟨g, 0, none⟩), v] w fun (r : Ending) w' => ∃ m : Nat, m < xs.length ∧ r = .returned (.int .i64 (xs.getD m 0)) ∧ Cur w' g (A + 2) ∧ TurnedIn g (g + 1) w w' := by
  have HC := hid h
  clear h
  obtain ⟨b, hb, hbg, rfl⟩ := hv
  have HB := hid hb
  clear hb
  go_enter Try.func129, Try.ntmps129
  go_wp2_with fail
  refine (pick_any g A (xs.length : Int) _ HC.out hA).mono ?_
  rintro e w1 ⟨m, hm, rfl, hc1, ht1⟩
  have hml : m < xs.length := by omega
  have hcell : w1.cell? ⟨b, m, none⟩ = some (.int .i64 (xs.getD m 0)) := by
    rw [World.cell?_of_block (a := ⟨b, m, none⟩) (ht1.block b HB.out.lt (by omega)), HB.out.cell]
    simp [hml]
  have HC1 := hid hc1
  have HT1 := hid ht1
  clear hc1 ht1 hm
  obtain ⟨z, hz⟩ : ∃ z, xs.getD m 0 = z := ⟨_, rfl⟩
  rw [hz] at hcell
  go_wp2
  go_ret
  exact ⟨m, hml, by rw [hz]; rfl, HC1.out, HT1.out⟩
end Go.Proofs.Ytclhebpkpmholaa
