/- Draws of the model: posets, sides, sizes. -/
import Derived.Test.YtclhebpkpmholaaCurI
namespace Go.Proofs.Ytclhebpkpmholaa
open Go.RowKit Go.WideShapes Go.ChangeShapes
set_option linter.unusedVariables false

theorem BytesB.below {w w' : World} {B : Nat} {v : Value} {xs : List Int} (h : BytesB w B v xs) (hb : Below w.heap.size w w') : BytesB w' B v xs := h.turned (TurnedIn.of_below (E := 0) hb)
theorem BytesB.up {w : World} {B B' : Nat} {v : Value} {xs : List Int} (h : BytesB w B v xs) (hb : B ≤ B') : BytesB w B' v xs := by
  obtain ⟨A, c, rfl, hr, h⟩ := h
  refine ⟨A, c, rfl, hr, fun hx => ?_⟩
  obtain ⟨b, o, e, h1, h2⟩ := h hx
  exact ⟨b, o, e, Nat.lt_of_lt_of_le h1 hb, h2⟩
/-- a new cursor -/
theorem Cur.new (w : World) (v : Value) (bs : List Int) (g : Nat) (hg : g = w.heap.size) (hb : BytesB w w.heap.size v bs) (hl : bs.length ≤ 1048576) :
    Cur (w.alloc (.cells #[v, .int .i64 0, .int .u64 0] 74)) g 0 := by
  subst hg
  exact ⟨v, bs, 0, 0, hb.below (below_alloc (Below.refl _ _) _), hl, Nat.le_refl _, by omega, by omega, Blk.new w _ _⟩
/-- what is drawn by a cursor of the call's own leaves all that was there -/
theorem Drawn.belowAll {w w1 w' : World} {g A : Nat} (h : Drawn w1 g A w') (hb : Below w.heap.size w w1) (hg : w.heap.size ≤ g) : Below w.heap.size w w' := below_turned hb h.turned hg
theorem drawIsPoset_any (v : Value) (bs : List Int) (w : World) (hb : BytesB w w.heap.size v bs) (hl : bs.length ≤ 1048576) :
    Calls Try.prog 86 #[v] w fun (r : Ending) w' => ∃ u xs, r = .returned (.agg #[u]) ∧ OwnI 3 w' w.heap.size u xs ∧ xs.length ≤ 21 ∧ Below w.heap.size w w' := by
  have HBy := hid hb
  obtain ⟨vA, vc, rfl, -⟩ := hb
  have HA0 := hid (Blk.new w 26 #[.slice none 0 0])
  have HB0 := hid (below_alloc (Below.refl _ w) (.cells #[.slice none 0 0] 26))
  go_enter Try.func86, Try.ntmps86
  go_wp2_with fail
  have HC := hid (Cur.new (w.alloc (.cells #[.slice none 0 0] 26)) _ bs (w.heap.size + 1) (by simp) ((HBy.out.below HB0.out).up (by simp)) hl)
  have HB1 := hid (below_alloc HB0.out (.cells #[.slice vA bs.length vc, .int .i64 0, .int .u64 0] 74))
  have HA1 := hid (HA0.out.alloc (.cells #[.slice vA bs.length vc, .int .i64 0, .int .u64 0] 74))
  refine (poset_any (w.heap.size + 1) 0 10 _ HC.out (by decide) (by decide) (by decide)).mono ?_
  rintro e w2 ⟨u, xs, rfl, ho, hl2, hd⟩
  have HB2 := hid (hd.belowAll HB1.out (by omega))
  have HA2 := hid (HA1.out.turned hd.turned (Or.inl (by omega)))
  have HO := hid (ho.mono (show w.heap.size + 1 ≤ _ by simp))
  obtain ⟨uA, un, uc, rfl⟩ := ho.shape3
  clear ho hd HA0 HA1 HB0 HB1 HC
  have a1 := HA2.out.cell 0
  have a2 := HA2.out.frozen 0
  go_wp2
  refine bodyPost_ret (v := .agg #[.slice uA un uc]) (by simp [results, Try.results86, go_sem, a1]) rfl ⟨_, xs, rfl, HO.out.box (Nat.le_refl _) _, hl2, HB2.out.setCell (p := ⟨w.heap.size, 0, none⟩) (Nat.le_refl _) _⟩
theorem drawStaircase_any (v : Value) (bs : List Int) (w : World) (hb : BytesB w w.heap.size v bs) (hl : bs.length ≤ 1048576) :
    Calls Try.prog 77 #[v] w fun (r : Ending) w' => ∃ n : Int, r = .returned (.int .i64 n) ∧ -1 ≤ n ∧ n ≤ 5 ∧ Below w.heap.size w w' := by
  have HBy := hid hb
  obtain ⟨vA, vc, rfl, -⟩ := hb
  go_enter Try.func77, Try.ntmps77
  go_wp2_with fail
  have HC := hid (Cur.new w _ bs w.heap.size rfl HBy.out hl)
  have HB1 := hid (below_alloc (Below.refl _ w) (.cells #[.slice vA bs.length vc, .int .i64 0, .int .u64 0] 74))
  have HB2 := hid (below_alloc HB1.out (.cells #[.int .i64 1, .int .i64 2, .int .i64 3, .int .i64 4, .int .i64 5, .int .i64 0, .int .i64 (-1)] 3))
  refine (among_any w.heap.size 0 _ [1, 2, 3, 4, 5, 0, -1] _ (HC.out.below (below_alloc (Below.refl _ _) _)) (by decide) ⟨_, Blk.new _ _ _, by simp, by simp⟩ (by decide) (by decide)).mono ?_
  rintro e w2 ⟨m, hm, rfl, hc2, ht2⟩
  have HB3 := hid (below_turned HB2.out ht2 (Nat.le_refl _))
  have hy := hid (getD_range (p := fun x => -1 ≤ x ∧ x ≤ 5) (l := [1, 2, 3, 4, 5, 0, -1]) (by decide) hm)
  obtain ⟨y, hy2⟩ : ∃ y, [(1 : Int), 2, 3, 4, 5, 0, -1].getD m 0 = y := ⟨_, rfl⟩
  rw [hy2] at hy ⊢
  clear hc2 ht2 hy2 hm HC HB1 HB2
  go_wp2
  go_ret
  exact ⟨y, rfl, hy.out.1, hy.out.2, HB3.out⟩
theorem drawFence_any (v : Value) (bs : List Int) (w : World) (hb : BytesB w w.heap.size v bs) (hl : bs.length ≤ 1048576) :
    Calls Try.prog 80 #[v] w fun (r : Ending) w' => ∃ n : Int, r = .returned (.int .i64 n) ∧ 0 ≤ n ∧ n ≤ 11 ∧ Below w.heap.size w w' := by
  have HBy := hid hb
  obtain ⟨vA, vc, rfl, -⟩ := hb
  go_enter Try.func80, Try.ntmps80
  go_wp2_with fail
  have HC := hid (Cur.new w _ bs w.heap.size rfl HBy.out hl)
  have HB1 := hid (below_alloc (Below.refl _ w) (.cells #[.slice vA bs.length vc, .int .i64 0, .int .u64 0] 74))
  have HB2 := hid (below_alloc HB1.out (.cells #[.int .i64 1, .int .i64 2, .int .i64 3, .int .i64 4, .int .i64 5, .int .i64 8, .int .i64 10, .int .i64 11, .int .i64 0] 3))
  refine (among_any w.heap.size 0 _ [1, 2, 3, 4, 5, 8, 10, 11, 0] _ (HC.out.below (below_alloc (Below.refl _ _) _)) (by decide) ⟨_, Blk.new _ _ _, by simp, by simp⟩ (by decide) (by decide)).mono ?_
  rintro e w2 ⟨m, hm, rfl, hc2, ht2⟩
  have HB3 := hid (below_turned HB2.out ht2 (Nat.le_refl _))
  have hy := hid (getD_range (p := fun x => 0 ≤ x ∧ x ≤ 11) (l := [1, 2, 3, 4, 5, 8, 10, 11, 0]) (by decide) hm)
  obtain ⟨y, hy2⟩ : ∃ y, [(1 : Int), 2, 3, 4, 5, 8, 10, 11, 0].getD m 0 = y := ⟨_, rfl⟩
  rw [hy2] at hy ⊢
  clear hc2 ht2 hy2 hm HC HB1 HB2
  go_wp2
  go_ret
  exact ⟨y, rfl, hy.out.1, hy.out.2, HB3.out⟩
theorem drawRectangle_any (v : Value) (bs : List Int) (w : World) (hb : BytesB w w.heap.size v bs) (hl : bs.length ≤ 1048576) :
    Calls Try.prog 71 #[v] w fun (r : Ending) w' => ∃ a b : Int, r = .returned (.tuple #[.int .i64 a, .int .i64 b]) ∧ (Lit.int .i64 a).wf = true ∧ (Lit.int .i64 b).wf = true ∧ Below w.heap.size w w' := by
  have HBy := hid hb
  obtain ⟨vA, vc, rfl, -⟩ := hb
  go_enter Try.func71, Try.ntmps71
  go_wp2_with fail
  have HC := hid (Cur.new w _ bs w.heap.size rfl HBy.out hl)
  have HB1 := hid (below_alloc (Below.refl _ w) (.cells #[.slice vA bs.length vc, .int .i64 0, .int .u64 0] 74))
  have HB2 := hid (below_alloc HB1.out (.cells #[.int .i64 1, .int .i64 2, .int .i64 3, .int .i64 4, .int .i64 5, .int .i64 10, .int .i64 11, .int .i64 0, .int .i64 4611686018427387904] 3))
  refine (among_any w.heap.size 0 _ [1, 2, 3, 4, 5, 10, 11, 0, 4611686018427387904] _ (HC.out.below (below_alloc (Below.refl _ _) _)) (by decide) ⟨_, Blk.new _ _ _, by simp, by simp⟩ (by decide) (by decide)).mono ?_
  rintro e w2 ⟨m, hm, rfl, hc2, ht2⟩
  have HB3 := hid (below_turned HB2.out ht2 (Nat.le_refl _))
  have HC2 := hid hc2
  have hy := hid (getD_range (p := fun x => 0 ≤ x ∧ x ≤ 4611686018427387904) (l := [1, 2, 3, 4, 5, 10, 11, 0, 4611686018427387904]) (by decide) hm)
  obtain ⟨y, hy2⟩ : ∃ y, [(1 : Int), 2, 3, 4, 5, 10, 11, 0, 4611686018427387904].getD m 0 = y := ⟨_, rfl⟩
  rw [hy2] at hy ⊢
  have hgw := hc2.lt
  clear hc2 ht2 hy2 hm HC HB1 HB2
  go_wp2_with fail
  have HB4 := hid (below_alloc HB3.out (.cells #[.int .i64 1, .int .i64 2, .int .i64 3, .int .i64 5, .int .i64 10, .int .i64 0, .int .i64 (-1), .int .i64 4611686018427387904] 3))
  refine (among_any w.heap.size 2 _ [1, 2, 3, 5, 10, 0, -1, 4611686018427387904] _ (HC2.out.below (below_alloc (Below.refl _ _) _)) (by decide) ⟨_, Blk.new _ _ _, by omega, by simp⟩ (by decide) (by decide)).mono ?_
  rintro e w3 ⟨m3, hm3, rfl, hc3, ht3⟩
  have HB5 := hid (below_turned HB4.out ht3 (Nat.le_refl _))
  have hz := hid (getD_range (p := fun x => -1 ≤ x ∧ x ≤ 4611686018427387904) (l := [1, 2, 3, 5, 10, 0, -1, 4611686018427387904]) (by decide) hm3)
  obtain ⟨z, hz2⟩ : ∃ y, [(1 : Int), 2, 3, 5, 10, 0, -1, 4611686018427387904].getD m3 0 = y := ⟨_, rfl⟩
  rw [hz2] at hz ⊢
  clear hc3 ht3 hz2 hm3
  go_wp2
  go_ret2
  exact ⟨y, z, rfl, wf_i64 _ (by have := hy.out; omega) (by have := hy.out; omega), wf_i64 _ (by have := hz.out; omega) (by have := hz.out; omega), HB5.out⟩
end Go.Proofs.Ytclhebpkpmholaa
