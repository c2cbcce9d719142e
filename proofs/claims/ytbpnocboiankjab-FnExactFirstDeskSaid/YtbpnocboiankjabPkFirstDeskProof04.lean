/- Texts Bval, DskF, LawD, FirstDeskLaw, one behind the other. -/
import Derived.Deep.DeepCutAuto
import Derived.Test.YtbpnocboiankjabPkFirstDeskProof01
import Derived.Test.YtbpnocboiankjabPkFirstDeskProof02
import Derived.Test.YtbpnocboiankjabPkFirstDeskProof03
/- Rows of Booleans. -/
namespace Go.Proofs.Ytbpnocboiankjab
open Go.RowKit Go.WideShapes Go.ChangeShapes
set_option linter.unusedVariables false

theorem infoBool : (Try.prog.info? 4).map (fun i => (i.zero, i.size, i.bytes)) = some (some (.bool false), 1, 1) := by kernel_rfl
def BVals (l : List Bool) : Array Value := (l.map Value.bool).toArray
theorem BVals_get {l : List Bool} {i : Nat} (h : i < l.length) : (BVals l)[i]? = some (.bool (l.getD i true)) := by
  simp [BVals, h]
theorem BVals_set (l : List Bool) (i : Nat) (y : Bool) : (BVals l).setIfInBounds i (.bool y) = BVals (l.set i y) := by
  unfold BVals
  rw [List.setIfInBounds_toArray, List.map_set]
theorem BVals_made (n : Nat) : madeCells #[.bool false] n = BVals (List.replicate n false) := by
  have := toList_madeCells_one (.bool false) n
  rw [← Array.toList_inj, this]
  simp [BVals]
theorem TurnedIn.set_ {B E : Nat} {a b : World} (h : TurnedIn B E a b) (p : Addr) (hp : B ≤ p.block ∧ p.block < E) (u : Value) : TurnedIn B E a (b.setCell p u) :=
  h.trans (TurnedIn.of_grown (row := some p.block) ⟨rfl, rfl, rfl, by simp [World.setCell], fun k hk hne => Below.heap_setCell b p u k (by rintro rfl; exact hne rfl)⟩ (fun k hk => by simp only [Option.some.injEq] at hk; subst hk; exact hp))
theorem TurnedIn.belowB {B E C : Nat} {a b c : World} (h : TurnedIn B E a b) (hb : Below C b c) (hC : a.heap.size ≤ C) : TurnedIn B E a c :=
  ⟨hb.os.trans h.os, hb.tape.trans h.tape, hb.output.trans h.output, Nat.le_trans h.size hb.size, fun i hi ho => (hb.block i (Nat.lt_of_lt_of_le hi hC)).trans (h.block i hi ho)⟩
end Go.Proofs.Ytbpnocboiankjab

/- FirstDesk and IsDesk of both sides. -/
namespace Go.Proofs.Ytbpnocboiankjab
open Go.RowKit Go.WideShapes Go.ChangeShapes
set_option linter.unusedVariables false

theorem rectL22 : rectL 2 2 = whereL (rectF 2) (2 * 2) := by decide +kernel
set_option maxRecDepth 100000 in
theorem specFirstDesk_any (w : World) :
    Calls Try.prog 5 #[] w fun (r : Ending) w' => ∃ u, r = Ending.returned (.agg #[u, .int .i64 0]) ∧ OwnI 3 w' w.heap.size u (rectL 2 2) ∧ (rectL 2 2).length ≤ 1048576 ∧ Below w.heap.size w w' := by
  have HL := hid rectL22
  have HN := hid (show (rectL 2 2).length ≤ 1048576 from by rw [rectL22]; decide)
  go_enter Try.func5, Try.ntmps5
  have HA := hid (Blk.new w 26 #[.slice none 0 0, .int .i64 0])
  go_wp2_with fail
  refine (poRectangle_any 2 2 _ (by decide) (by decide) (by decide) (by decide) (by decide)).mono ?_
  rintro e w1 ⟨u, rfl, ho, hb⟩
  rw [← HL.out] at ho
  obtain ⟨uA, uc, rfl, -⟩ := ho.ints
  have h3 : OwnI 3 w1 (w.heap.size + 1) (.slice uA (rectL 2 2).length uc) (rectL 2 2) := by simpa using ho
  have HO := hid h3
  have HA1 := hid (HA.out.below hb (by simp))
  have HB := hid (below_to (below_alloc (Below.refl _ w) _) hb)
  have c0 : w1.cell? ⟨w.heap.size, 0, none⟩ = some (.slice none 0 0) := HA1.out.cell 0
  have c1 : w1.cell? ⟨w.heap.size, 1, none⟩ = some (.int .i64 0) := HA1.out.cell 1
  have f0 := HA1.out.frozen 0
  have f1 := HA1.out.frozen 1
  obtain ⟨n, hn⟩ : ∃ n, (rectL 2 2).length = n := ⟨_, rfl⟩
  rw [hn] at HO ⊢
  clear ho hb h3
  go_wp2
  have HT := (((TurnedIn.refl w.heap.size (w.heap.size + 1) w1).set_ ⟨w.heap.size, 0, none⟩ ⟨Nat.le_refl _, Nat.lt_succ_self _⟩ (.slice uA n uc)).set_ ⟨w.heap.size, 1, none⟩ ⟨Nat.le_refl _, Nat.lt_succ_self _⟩ (.int .i64 0))
  refine bodyPost_ret (v := .agg #[.slice uA n uc, .int .i64 0]) (by simp [results, Try.results5, go_sem, c0, c1]) rfl ⟨_, rfl, (HO.out.turned HT (OwnI.blockLt HO.out) (Or.inr (by omega))).mono (by omega), HN.out, ?_⟩
  exact ((HB.out.setCell (p := ⟨w.heap.size, 0, none⟩) (Nat.le_refl _) _).setCell (p := ⟨w.heap.size, 1, none⟩) (Nat.le_refl _) _)
set_option maxRecDepth 100000 in
theorem implFirstDesk_any (w : World) :
    Calls Try.prog 6 #[] w fun (r : Ending) w' => ∃ u, r = Ending.returned (.agg #[u, .int .i64 0]) ∧ OwnI 3 w' w.heap.size u (rectL 2 2) ∧ (rectL 2 2).length ≤ 1048576 ∧ Below w.heap.size w w' := by
  have HN := hid (show (rectL 2 2).length ≤ 1048576 from by rw [rectL22]; decide)
  go_enter Try.func6, Try.ntmps6
  have HA := hid (Blk.new w 26 #[.slice none 0 0, .int .i64 0])
  go_wp2_with fail
  refine (implRectangle_yes 2 2 _ (by decide +kernel) (by decide) (by decide) (by decide) (by decide) (by decide)).mono ?_
  rintro e w1 ⟨u, rfl, ho, -, hb⟩
  rw [show rectL ((2 : Nat) : Int) ((2 : Nat) : Int) = rectL 2 2 from rfl] at ho
  obtain ⟨uA, uc, rfl, -⟩ := ho.ints
  have h3 : OwnI 3 w1 (w.heap.size + 1) (.slice uA (rectL 2 2).length uc) (rectL 2 2) := by simpa using ho
  have HO := hid h3
  have HA1 := hid (HA.out.below hb (by simp))
  have hz : w.heap.size + 1 ≤ w1.heap.size := by have := hb.size; simp at this; omega
  have HB := hid (below_to (below_alloc (Below.refl _ w) _) hb)
  obtain ⟨n, hn⟩ : ∃ n, (rectL 2 2).length = n := ⟨_, rfl⟩
  rw [hn] at HO ⊢
  have HA2 := hid (HA1.out.alloc (.cells #[.slice uA n uc] 24))
  have c0 : (w1.alloc (.cells #[.slice uA n uc] 24)).cell? ⟨w.heap.size, 0, none⟩ = some (.slice none 0 0) := HA2.out.cell 0
  have c1 : (w1.alloc (.cells #[.slice uA n uc] 24)).cell? ⟨w.heap.size, 1, none⟩ = some (.int .i64 0) := HA2.out.cell 1
  have f0 := HA2.out.frozen 0
  have f1 := HA2.out.frozen 1
  clear ho hb h3
  go_wp2
  have HT := (((TurnedIn.refl w.heap.size (w.heap.size + 1) (w1.alloc (.cells #[.slice uA n uc] 24))).set_ ⟨w.heap.size, 0, none⟩ ⟨Nat.le_refl _, Nat.lt_succ_self _⟩ (.slice uA n uc)).set_ ⟨w.heap.size, 1, none⟩ ⟨Nat.le_refl _, Nat.lt_succ_self _⟩ (.int .i64 0))
  have HO2 := HO.out.alloc (.cells #[.slice uA n uc] 24)
  refine bodyPost_ret (v := .agg #[.slice uA n uc, .int .i64 0]) (by simp [results, Try.results6, go_sem, c0, c1]) rfl ⟨_, rfl, (HO2.turned HT (OwnI.blockLt HO2) (Or.inr (by omega))).mono (by omega), HN.out, ?_⟩
  exact (((below_alloc HB.out _).setCell (p := ⟨w.heap.size, 0, none⟩) (Nat.le_refl _) _).setCell (p := ⟨w.heap.size, 1, none⟩) (Nat.le_refl _) _)
theorem coGood_any (v : Value) (xs : List Int) (s : Int) (w : World) (hv : Ints w v xs) (hl : xs.length ≤ 1048576) :
    Calls Try.prog 20 #[.agg #[v, .int .i64 s]] w fun r w' => r = .returned (.bool (okIdeal xs s)) ∧ Below w.heap.size w w' := by
  have HV := hid hv
  obtain ⟨A, c, rfl, -⟩ := hv
  go_enter Try.func20, Try.ntmps20
  go_wp2_with (go_at_call 30; refine (tgIn_any _ xs s _ (HV.out.alloc _) hl).mono ?_; rintro e w1 ⟨rfl, hb1⟩)
  go_ret
  exact ⟨rfl, below_to (below_alloc (Below.refl _ w) _) hb1⟩
theorem specIsDesk_any (v : Value) (xs : List Int) (s : Int) (w : World) (hv : Ints w v xs) (hl : xs.length ≤ 1048576) :
    Calls Try.prog 11 #[.agg #[v, .int .i64 s]] w fun r w' => r = .returned (.bool (okIdeal xs s)) ∧ Below w.heap.size w w' := by
  have HV := hid hv
  obtain ⟨A, c, rfl, -⟩ := hv
  go_enter Try.func11, Try.ntmps11
  go_wp2_with (go_at_call 20; refine (coGood_any _ xs s _ (HV.out.alloc _) hl).mono ?_; rintro e w1 ⟨rfl, hb1⟩)
  go_ret
  exact ⟨rfl, below_to (below_alloc (Below.refl _ w) _) hb1⟩
theorem implIsDesk_any (v : Value) (xs : List Int) (s : Int) (w : World) (hv : Ints w v xs) (hl : xs.length ≤ 1048576) :
    Calls Try.prog 13 #[.agg #[v, .int .i64 s]] w fun r w' => r = .returned (.bool (okIdeal xs s)) ∧ Below w.heap.size w w' := by
  have HV := hid hv
  obtain ⟨A, c, rfl, -⟩ := hv
  go_enter Try.func13, Try.ntmps13
  go_wp2_with (go_at_call 22; refine (hasIdeal_any _ xs s _ (HV.out.alloc _) hl).mono ?_; rintro e w1 ⟨rfl, hb1⟩)
  go_ret
  exact ⟨rfl, below_to (below_alloc (Below.refl _ w) _) hb1⟩
end Go.Proofs.Ytbpnocboiankjab

/- The law's helpers for desks: sizes, copies, comparisons, marks. -/
namespace Go.Proofs.Ytbpnocboiankjab
open Go.RowKit Go.WideShapes Go.ChangeShapes
set_option linter.unusedVariables false

/-- a box of two cells -/
def At2 (w : World) (b : Nat) (v u : Value) : Prop := w.cell? ⟨b, 0, none⟩ = some v ∧ w.cell? ⟨b, 1, none⟩ = some u ∧ b < w.heap.size
theorem At2.below {w w' : World} {b : Nat} {v u : Value} (h : At2 w b v u) (hb : Below w.heap.size w w') : At2 w' b v u :=
  ⟨(hb.cell (p := ⟨b, 0, none⟩) h.2.2).trans h.1, (hb.cell (p := ⟨b, 1, none⟩) h.2.2).trans h.2.1, Nat.lt_of_lt_of_le h.2.2 hb.size⟩
theorem At2.alloc {w : World} {b : Nat} {v u : Value} (h : At2 w b v u) (o : Obj) : At2 (w.alloc o) b v u := h.below ((Below.refl _ _).alloc (Nat.le_refl _) o)
theorem At2.drew {w : World} {b : Nat} {v u : Value} (h : At2 w b v u) : At2 w.drew b v u := h.below (Go.Joins.below_draws _ _ 1)
theorem At2.new (w : World) (v u : Value) (t : TypeId) : At2 (w.alloc (.cells #[v, u] t)) w.heap.size v u := ⟨(Blk.new w t #[v, u]).cell 0, (Blk.new w t #[v, u]).cell 1, by simp⟩
theorem At2.newAt (w : World) (v u : Value) (t : TypeId) (b : Nat) (hb : b = w.heap.size) : At2 (w.alloc (.cells #[v, u] t)) b v u := by subst hb; exact At2.new w v u t
theorem At2.grown {w w' : World} {b : Nat} {v u : Value} {row : Option Nat} (h : At2 w b v u) (hg : w.grownBy w' row) (hne : row ≠ some b) : At2 w' b v u :=
  ⟨hg.cell (a := ⟨b, 0, none⟩) h.1 (fun e => hne e.symm), hg.cell (a := ⟨b, 1, none⟩) h.2.1 (fun e => hne e.symm), Nat.lt_of_lt_of_le h.2.2 hg.size⟩
theorem szDesk_any (v : Value) (xs : List Int) (s left : Int) (w : World) (hv : Ints w v xs) (hl : xs.length ≤ maxLen) (h0 : 0 ≤ left) (h1 : left ≤ 1048576) :
    Calls Try.prog 10 #[.agg #[v, .int .i64 s], .int .i64 left] w fun r w' => r = .returned (.int .i64 (szRes left xs.length)) ∧ Below w.heap.size w w' := by
  have HV := hid hv
  obtain ⟨A, c, rfl, -⟩ := hv
  by_cases hlt : left < xs.length
  · have Hs := hid (szRes_neg hlt)
    go_enter Try.func10, Try.ntmps10
    go_wp2_with (go_at_call 19; refine (szPoset_any _ xs _ _ (HV.out.alloc _) hl h0 h1).mono ?_; rw [Hs.out]; rintro e w1 ⟨rfl, hb1⟩)
    go_ret
    exact ⟨by rw [Hs.out]; rfl, below_to (below_alloc (Below.refl _ w) _) hb1⟩
  · have Hs := hid (szRes_pos hlt)
    have hn : 0 ≤ left - (xs.length : Int) := by omega
    obtain ⟨d, hd⟩ : ∃ d, left - (xs.length : Int) = d := ⟨_, rfl⟩
    rw [hd] at hn Hs
    go_enter Try.func10, Try.ntmps10
    go_wp2_with (go_at_call 19; refine (szPoset_any _ xs _ _ (HV.out.alloc _) hl h0 h1).mono ?_; rw [Hs.out]; rintro e w1 ⟨rfl, hb1⟩)
    go_ret
    exact ⟨by rw [Hs.out]; rfl, below_to (below_alloc (Below.refl _ w) _) hb1⟩
theorem toDesk_own (v : Value) (xs : List Int) (s : Int) (w : World) (hv : Ints w v xs) (hl : xs.length ≤ 1048576) :
    Calls Try.prog 12 #[.agg #[v, .int .i64 s]] w fun (r : Ending) w' => ∃ u, r = Ending.returned (.agg #[u, .int .i64 s]) ∧ OwnI 3 w' w.heap.size u xs ∧ Below w.heap.size w w' := by
  have HV := hid hv
  obtain ⟨A, c, rfl, -⟩ := hv
  go_enter Try.func12, Try.ntmps12
  have HA := hid (Blk.new w 33 #[.slice A xs.length c, .int .i64 s])
  go_wp2_with fail
  refine (toPoset_own _ xs _ (((HV.out.alloc _).alloc _).alloc _) hl).mono ?_
  rintro e w1 ⟨u, rfl, ho, hb⟩
  obtain ⟨uA, uc, rfl, -⟩ := ho.ints
  have h3 : OwnI 3 w1 (w.heap.size + 3) (.slice uA xs.length uc) xs := by simpa using ho
  have HO := hid h3
  have hz : w.heap.size + 3 ≤ w1.heap.size := by have := hb.size; simp at this; omega
  have HA1 := hid (((HA.out.alloc (.cells #[.slice none 0 0, .int .i64 0] 26)).alloc (.cells #[.slice none 0 0, .int .i64 0] 26)).below hb (by simp; omega))
  have HR : Hid (Blk w1 (w.heap.size + 1) 26 #[.slice none 0 0, .int .i64 0]) := hid (((Blk.newAt (w.alloc (.cells #[.slice A xs.length c, .int .i64 s] 33)) 26 #[.slice none 0 0, .int .i64 0] (w.heap.size + 1) (by simp)).alloc (.cells #[.slice none 0 0, .int .i64 0] 26)).below hb (by simp))
  have HR2 : Hid (Blk w1 (w.heap.size + 2) 26 #[.slice none 0 0, .int .i64 0]) := hid ((Blk.newAt ((w.alloc (.cells #[.slice A xs.length c, .int .i64 s] 33)).alloc (.cells #[.slice none 0 0, .int .i64 0] 26)) 26 #[.slice none 0 0, .int .i64 0] (w.heap.size + 2) (by simp)).below hb (by simp))
  have HB := hid (below_to (below_alloc (below_alloc (below_alloc (Below.refl _ w) _) _) _) hb)
  have c0 : w1.cell? ⟨w.heap.size, 0, none⟩ = some (.slice A xs.length c) := HA1.out.cell 0
  have c1 : w1.cell? ⟨w.heap.size, 1, none⟩ = some (.int .i64 s) := HA1.out.cell 1
  have d0 : w1.cell? ⟨w.heap.size + 1, 0, none⟩ = some (.slice none 0 0) := HR.out.cell 0
  have d1 : w1.cell? ⟨w.heap.size + 1, 1, none⟩ = some (.int .i64 0) := HR.out.cell 1
  have e0 : w1.cell? ⟨w.heap.size + 2, 0, none⟩ = some (.slice none 0 0) := HR2.out.cell 0
  have e1 : w1.cell? ⟨w.heap.size + 2, 1, none⟩ = some (.int .i64 0) := HR2.out.cell 1
  have f0 := HR.out.frozen 0
  have f1 := HR.out.frozen 1
  have g0 := HR2.out.frozen 0
  have g1 := HR2.out.frozen 1
  clear ho hb h3
  go_wp2
  have HT := (((((TurnedIn.refl (w.heap.size + 1) (w.heap.size + 3) w1).set_ ⟨w.heap.size + 1 + 1, 0, none⟩ ⟨by show w.heap.size + 1 ≤ w.heap.size + 1 + 1; omega, by show w.heap.size + 1 + 1 < w.heap.size + 3; omega⟩ (.slice uA xs.length uc)).set_ ⟨w.heap.size + 1 + 1, 1, none⟩ ⟨by show w.heap.size + 1 ≤ w.heap.size + 1 + 1; omega, by show w.heap.size + 1 + 1 < w.heap.size + 3; omega⟩ (.int .i64 s)).set_ ⟨w.heap.size + 1, 0, none⟩ ⟨Nat.le_refl _, by show w.heap.size + 1 < w.heap.size + 3; omega⟩ (.slice uA xs.length uc)).set_ ⟨w.heap.size + 1, 1, none⟩ ⟨Nat.le_refl _, by show w.heap.size + 1 < w.heap.size + 3; omega⟩ (.int .i64 s))
  refine bodyPost_ret (v := .agg #[.slice uA xs.length uc, .int .i64 s]) (by simp [results, Try.results12, go_sem, d0, d1]) rfl ⟨_, rfl, (HO.out.turned HT (OwnI.blockLt HO.out) (Or.inr (by omega))).mono (by omega), ?_⟩
  exact (((HB.out.setCell (p := ⟨w.heap.size + 1 + 1, 0, none⟩) (by show w.heap.size ≤ w.heap.size + 1 + 1; omega) _).setCell (p := ⟨w.heap.size + 1 + 1, 1, none⟩) (by show w.heap.size ≤ w.heap.size + 1 + 1; omega) _).setCell (p := ⟨w.heap.size + 1, 0, none⟩) (by show w.heap.size ≤ w.heap.size + 1; omega) _).setCell (p := ⟨w.heap.size + 1, 1, none⟩) (by show w.heap.size ≤ w.heap.size + 1; omega) _
theorem eqDesk_any (v u : Value) (xs : List Int) (s : Int) (w : World) (hv : Ints w v xs) (hu : Ints w u xs) (hl : xs.length ≤ 1048576) :
    Calls Try.prog 7 #[.agg #[v, .int .i64 s], .agg #[u, .int .i64 s]] w fun r w' => r = .returned (.bool true) ∧ Below w.heap.size w w' := by
  have HV := hid hv
  have HU := hid hu
  obtain ⟨A, c, rfl, -⟩ := hv
  obtain ⟨C, c2, rfl, -⟩ := hu
  go_enter Try.func7, Try.ntmps7
  go_wp2_with fail
  refine (eqPoset_any _ _ xs _ ((HV.out.alloc _).alloc _) ((HU.out.alloc _).alloc _) hl).mono ?_
  rintro e w1 ⟨rfl, hb⟩
  have a1 : w1.cell? ⟨w.heap.size, 1, none⟩ = some (.int .i64 s) := (((Blk.new w 26 #[.slice A xs.length c, .int .i64 s]).alloc (.cells #[.slice C xs.length c2, .int .i64 s] 26)).below hb (by simp; omega)).cell 1
  have b1 : w1.cell? ⟨w.heap.size + 1, 1, none⟩ = some (.int .i64 s) := ((Blk.newAt (w.alloc (.cells #[.slice A xs.length c, .int .i64 s] 26)) 26 #[.slice C xs.length c2, .int .i64 s] (w.heap.size + 1) (by simp)).below hb (by simp)).cell 1
  have HB := hid (below_to (below_alloc (below_alloc (Below.refl _ w) _) _) hb)
  clear hb
  go_wp2
  go_ret
  exact ⟨rfl, HB.out⟩
theorem markDesk_any (v : Value) (xs : List Int) (s k : Int) (B : Nat) (w : World) (hv : OwnI 3 w B v xs) (hl : xs.length ≤ 1048576) (h0 : 0 ≤ k) (h1 : k ≤ 1000000000000) :
    Calls Try.prog 8 #[.agg #[v, .int .i64 s], .int .i64 k] w fun r w' => r = .returned (.int .i64 (k + xs.length)) ∧ OwnI 3 w' B v (marks xs.length k) ∧ w.grownBy w' v.ownBlock := by
  have HO := hid hv
  obtain ⟨A, c, rfl, -⟩ := hv.ints
  clear hv
  go_enter Try.func8, Try.ntmps8
  go_wp2_with (go_at_call 17; refine (markPoset_any _ xs k B _ (HO.out.alloc _) hl h0 h1).mono ?_; rintro e w1 ⟨rfl, ho, hg⟩)
  go_ret
  exact ⟨rfl, ho, grown_trans (grown_of_below ((Below.refl _ _).alloc (Nat.le_refl _) _) _) hg⟩
theorem heldDesk_any (v : Value) (n : Nat) (s k : Int) (w : World) (hv : Ints w v (marks n k)) (hl : n ≤ 1048576) (h0 : 0 ≤ k) (h1 : k ≤ 1000000000000) :
    Calls Try.prog 9 #[.agg #[v, .int .i64 s], .int .i64 k] w fun r w' => r = .returned (.int .i64 (k + n)) ∧ Below w.heap.size w w' := by
  have HV := hid hv
  obtain ⟨A, c, rfl, -⟩ := hv
  have hn : ¬ k + (n : Int) < 0 := by omega
  obtain ⟨d, hd⟩ : ∃ d, k + (n : Int) = d := ⟨_, rfl⟩
  rw [hd] at hn
  have HD := hid hd
  clear hd
  go_enter Try.func9, Try.ntmps9
  go_wp2_with (go_at_call 18; refine (heldPoset_any _ n k _ (HV.out.alloc _) hl h0 h1).mono ?_; rw [HD.out]; rintro e w1 ⟨rfl, hb1⟩)
  go_ret
  exact ⟨by rw [HD.out]; rfl, below_to (below_alloc (Below.refl _ w) _) hb1⟩
end Go.Proofs.Ytbpnocboiankjab

/- FnExactFirstDesk: the law's walk (by genlaw.py). -/
namespace Go.Proofs.Ytbpnocboiankjab.lawFirstDesk
open Go.RowKit Go.WideShapes Go.ChangeShapes
set_option linter.unusedVariables false
set_option maxRecDepth 100000 in
set_option maxHeartbeats 8000000 in
theorem walk  (w : World)  :
    Calls Try.prog 3 #[] w fun e w' => e = .returned (.bool true) ∧ Below w.heap.size w w' := by
  go_enter Try.func3, Try.ntmps3
  go_wp2_with fail
  refine (specFirstDesk_any  _ ).mono ?_
  rintro e w_1 ⟨u3, rfl, ho4, hl5, hb2⟩
  have G6 := hid (below_to (Below.refl _ w) hb2)
  have Z7 := hid (show w.heap.size + 0 ≤ w_1.heap.size by have := hb2.size; first | omega | (simp at this; omega))
  have hn8 := ho4
  have HL9 := hid hl5
  obtain ⟨u3A, u3n, u3c, rfl⟩ := hn8.shape3
  have U10 := hid (OwnI.blockLt hn8)
  have F11 := hid hn8
  clear hb2 hn8 ho4 hl5
  go_wp2_with fail
  refine (implFirstDesk_any  _ ).mono ?_
  rintro e w_12 ⟨u14, rfl, ho15, hl16, hb13⟩
  have F17 := hid ((F11.out.alloc _).below hb13)
  have F18 := hid ((At2.new w_1 (Value.slice u3A u3n u3c) (.int .i64 (0)) 26).below hb13)
  have G19 := hid (below_to (below_alloc G6.out _) hb13)
  have Z20 := hid (show w_1.heap.size + 1 ≤ w_12.heap.size by have := hb13.size; first | omega | (simp at this; omega))
  have hn21 : OwnI 3 w_12 (w_1.heap.size + 1) u14 (rectL 2 2) := by simpa using ho15
  have HL22 := hid hl16
  obtain ⟨u14A, u14n, u14c, rfl⟩ := hn21.shape3
  have U23 := hid (OwnI.blockLt hn21)
  have F24 := hid hn21
  clear F11 G6 hb13 hn21 ho15 hl16
  have e25 := F18.out.1
  have e25z := F18.out.2.1
  have e25y := F18.out.2.2
  go_wp2_with fail
  clear e25 e25z e25y
  refine (eqDesk_any _ _ ((rectL 2 2)) (0) _ (F24.out.alloc _).ints (F17.out.alloc _).ints HL22.out).mono ?_
  rintro e w_26 ⟨rfl, hb27⟩
  have F28 := hid ((F17.out.alloc _).below hb27)
  have F29 := hid ((F18.out.alloc _).below hb27)
  have F30 := hid ((F24.out.alloc _).below hb27)
  have F31 := hid ((At2.new w_12 (Value.slice u14A u14n u14c) (.int .i64 (0)) 26).below hb27)
  have G32 := hid (below_to (below_alloc G19.out _) hb27)
  have Z33 := hid (show w_12.heap.size + 1 ≤ w_26.heap.size by have := hb27.size; first | omega | (simp at this; omega))
  clear F17 F18 F24 G19 hb27
  have e34 := F29.out.1
  have e34z := F29.out.2.1
  have e34y := F29.out.2.2
  have e35 := F31.out.1
  have e35z := F31.out.2.1
  have e35y := F31.out.2.2
  go_wp2_with fail
  clear e34 e34z e34y e35 e35z e35y
  refine (markDesk_any _ ((rectL 2 2)) _ _ _ _ F30.out HL22.out (by omega) (by first | omega | (have := HL22.out; omega))).mono ?_
  rintro e w_36 ⟨rfl, ho37, hg38⟩
  have qZ7 := Z7.out
  have qZ20 := Z20.out
  have qZ33 := Z33.out
  have F39 := hid (F28.out.grown hg38 (row_ne_row (U10.out) (U23.out) (by omega)))
  have F40 := hid (F29.out.grown hg38 (row_ne_box (U23.out) (by omega)))
  have F41 := hid (F31.out.grown hg38 (row_ne_box (U23.out) (by omega)))
  have G42 := hid (below_grown G32.out hg38 (fun k hk => by have := U23.out k hk; omega))
  have Z43 := hid (show w_26.heap.size + 0 ≤ w_36.heap.size by have := hg38.size; first | omega | (simp at this; omega))
  clear qZ7 qZ20 qZ33
  have F44 := hid ho37
  clear F28 F29 F31 G32 F30 ho37 hg38
  have e45 := F40.out.1
  have e45z := F40.out.2.1
  have e45y := F40.out.2.2
  have e46 := F41.out.1
  have e46z := F41.out.2.1
  have e46y := F41.out.2.2
  go_wp2_with fail
  clear e45 e45z e45y e46 e46z e46y
  refine (heldDesk_any _ _ _ _ _ F44.out.ints HL22.out (by omega) (by omega)).mono ?_
  rintro e w_47 ⟨rfl, hb48⟩
  have F49 := hid (F39.out.below hb48)
  have F50 := hid (F40.out.below hb48)
  have F51 := hid (F41.out.below hb48)
  have F52 := hid (F44.out.below hb48)
  have G53 := hid (below_to G42.out hb48)
  have Z54 := hid (show w_36.heap.size + 0 ≤ w_47.heap.size by have := hb48.size; first | omega | (simp at this; omega))
  clear F39 F40 F41 F44 G42 hb48
  have e55 := F50.out.1
  have e55z := F50.out.2.1
  have e55y := F50.out.2.2
  have e56 := F51.out.1
  have e56z := F51.out.2.1
  have e56y := F51.out.2.2
  go_wp2_with fail
  clear e55 e55z e55y e56 e56z e56y
  refine (implFirstDesk_any  _ ).mono ?_
  rintro e w_57 ⟨u59, rfl, ho60, hl61, hb58⟩
  have F62 := hid (F49.out.below hb58)
  have F63 := hid (F50.out.below hb58)
  have F64 := hid (F51.out.below hb58)
  have F65 := hid (F52.out.below hb58)
  have G66 := hid (below_to G53.out hb58)
  have Z67 := hid (show w_47.heap.size + 0 ≤ w_57.heap.size by have := hb58.size; first | omega | (simp at this; omega))
  have hn68 := ho60
  have HL69 := hid hl61
  obtain ⟨u59A, u59n, u59c, rfl⟩ := hn68.shape3
  have U70 := hid (OwnI.blockLt hn68)
  have F71 := hid hn68
  clear F49 F50 F51 F52 G53 hb58 hn68 ho60 hl61
  have e72 := F63.out.1
  have e72z := F63.out.2.1
  have e72y := F63.out.2.2
  have e73 := F64.out.1
  have e73z := F64.out.2.1
  have e73y := F64.out.2.2
  go_wp2_with fail
  clear e72 e72z e72y e73 e73z e73y
  refine (eqDesk_any _ _ ((rectL 2 2)) (0) _ (F71.out.alloc _).ints (F62.out.alloc _).ints HL69.out).mono ?_
  rintro e w_74 ⟨rfl, hb75⟩
  have F76 := hid ((F62.out.alloc _).below hb75)
  have F77 := hid ((F63.out.alloc _).below hb75)
  have F78 := hid ((F64.out.alloc _).below hb75)
  have F79 := hid ((F65.out.alloc _).below hb75)
  have F80 := hid ((F71.out.alloc _).below hb75)
  have F81 := hid ((At2.new w_57 (Value.slice u59A u59n u59c) (.int .i64 (0)) 26).below hb75)
  have G82 := hid (below_to (below_alloc G66.out _) hb75)
  have Z83 := hid (show w_57.heap.size + 1 ≤ w_74.heap.size by have := hb75.size; first | omega | (simp at this; omega))
  clear F62 F63 F64 F65 F71 G66 hb75
  have e84 := F77.out.1
  have e84z := F77.out.2.1
  have e84y := F77.out.2.2
  have e85 := F78.out.1
  have e85z := F78.out.2.1
  have e85y := F78.out.2.2
  have e86 := F81.out.1
  have e86z := F81.out.2.1
  have e86y := F81.out.2.2
  go_wp2_with fail
  clear e84 e84z e84y e85 e85z e85y e86 e86z e86y
  refine (heldDesk_any _ _ _ _ _ F79.out.ints HL22.out (by omega) (by omega)).mono ?_
  rintro e w_87 ⟨rfl, hb88⟩
  have F89 := hid (F76.out.below hb88)
  have F90 := hid (F77.out.below hb88)
  have F91 := hid (F78.out.below hb88)
  have F92 := hid (F79.out.below hb88)
  have F93 := hid (F80.out.below hb88)
  have F94 := hid (F81.out.below hb88)
  have G95 := hid (below_to G82.out hb88)
  have Z96 := hid (show w_74.heap.size + 0 ≤ w_87.heap.size by have := hb88.size; first | omega | (simp at this; omega))
  clear F76 F77 F78 F79 F80 F81 G82 hb88
  go_wp2
  go_ret
  exact ⟨rfl, G95.out⟩

end Go.Proofs.Ytbpnocboiankjab.lawFirstDesk
