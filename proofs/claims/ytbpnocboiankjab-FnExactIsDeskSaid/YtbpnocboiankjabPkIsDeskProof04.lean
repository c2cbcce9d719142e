/- Texts Bval, DskF, LawD, IsDeskLaw, OpenD, one behind the other. -/
import Derived.Deep.DeepCutAuto
import Derived.Test.YtbpnocboiankjabPkIsDeskProof00
import Derived.Test.YtbpnocboiankjabPkIsDeskProof01
import Derived.Test.YtbpnocboiankjabPkIsDeskProof02
import Derived.Test.YtbpnocboiankjabPkIsDeskProof03
/- Rows of Booleans. -/
namespace Go.Proofs.Ytbpnocboiankjab
open Go.RowKit Go.WideShapes Go.ChangeShapes
set_option linter.unusedVariables false

theorem infoBool : (Try.prog.info? 4).map (fun i => (i.zero, i.size, i.bytes)) = some (some (.bool false), 1, 1) := by kernel_rfl
def BVals (l : List Bool) : Array Value := (l.map Value.bool).toArray
theorem BVals_get {l : List Bool} {i : Nat} (h : i < l.length) : (BVals l)[i]? = some (.bool (l.getD i true)) := by
  simp [BVals, h]
theorem BVals_set (l : List Bool) (i : Nat) (y : Bool) : (BVals l).setIfInBounds i (.bool y) = BVals (l.set i y) := by
  unfold BVals
  rw [List.setIfInBounds_toArray, List.map_set]
theorem BVals_made (n : Nat) : madeCells #[.bool false] n = BVals (List.replicate n false) := by
  have := toList_madeCells_one (.bool false) n
  rw [← Array.toList_inj, this]
  simp [BVals]
theorem TurnedIn.set_ {B E : Nat} {a b : World} (h : TurnedIn B E a b) (p : Addr) (hp : B ≤ p.block ∧ p.block < E) (u : Value) : TurnedIn B E a (b.setCell p u) :=
  h.trans (TurnedIn.of_grown (row := some p.block) ⟨rfl, rfl, rfl, by simp [World.setCell], fun k hk hne => Below.heap_setCell b p u k (by rintro rfl; exact hne rfl)⟩ (fun k hk => by simp only [Option.some.injEq] at hk; subst hk; exact hp))
theorem TurnedIn.belowB {B E C : Nat} {a b c : World} (h : TurnedIn B E a b) (hb : Below C b c) (hC : a.heap.size ≤ C) : TurnedIn B E a c :=
  ⟨hb.os.trans h.os, hb.tape.trans h.tape, hb.output.trans h.output, Nat.le_trans h.size hb.size, fun i hi ho => (hb.block i (Nat.lt_of_lt_of_le hi hC)).trans (h.block i hi ho)⟩
end Go.Proofs.Ytbpnocboiankjab

/- FirstDesk and IsDesk of both sides. -/
namespace Go.Proofs.Ytbpnocboiankjab
open Go.RowKit Go.WideShapes Go.ChangeShapes
set_option linter.unusedVariables false

theorem rectL22 : rectL 2 2 = whereL (rectF 2) (2 * 2) := by decide +kernel
set_option maxRecDepth 100000 in
theorem specFirstDesk_any (w : World) :
    Calls Try.prog 5 #[] w fun (r : Ending) w' => ∃ u, r = Ending.returned (.agg #[u, .int .i64 0]) ∧ OwnI 3 w' w.heap.size u (rectL 2 2) ∧ (rectL 2 2).length ≤ 1048576 ∧ Below w.heap.size w w' := by
  have HL := hid rectL22
  have HN := hid (show (rectL 2 2).length ≤ 1048576 from by rw [rectL22]; decide)
  go_enter Try.func5, Try.ntmps5
  have HA := hid (Blk.new w 26 #[.slice none 0 0, .int .i64 0])
  go_wp2_with fail
  refine (poRectangle_any 2 2 _ (by decide) (by decide) (by decide) (by decide) (by decide)).mono ?_
  rintro e w1 ⟨u, rfl, ho, hb⟩
  rw [← HL.out] at ho
  obtain ⟨uA, uc, rfl, -⟩ := ho.ints
  have h3 : OwnI 3 w1 (w.heap.size + 1) (.slice uA (rectL 2 2).length uc) (rectL 2 2) := by simpa using ho
  have HO := hid h3
  have HA1 := hid (HA.out.below hb (by simp))
  have HB := hid (below_to (below_alloc (Below.refl _ w) _) hb)
  have c0 : w1.cell? ⟨w.heap.size, 0, none⟩ = some (.slice none 0 0) := HA1.out.cell 0
  have c1 : w1.cell? ⟨w.heap.size, 1, none⟩ = some (.int .i64 0) := HA1.out.cell 1
  have f0 := HA1.out.frozen 0
  have f1 := HA1.out.frozen 1
  obtain ⟨n, hn⟩ : ∃ n, (rectL 2 2).length = n := ⟨_, rfl⟩
  rw [hn] at HO ⊢
  clear ho hb h3
  go_wp2
  have HT := (((TurnedIn.refl w.heap.size (w.heap.size + 1) w1).set_ ⟨w.heap.size, 0, none⟩ ⟨Nat.le_refl _, Nat.lt_succ_self _⟩ (.slice uA n uc)).set_ ⟨w.heap.size, 1, none⟩ ⟨Nat.le_refl _, Nat.lt_succ_self _⟩ (.int .i64 0))
  refine bodyPost_ret (v := .agg #[.slice uA n uc, .int .i64 0]) (by simp [results, Try.results5, go_sem, c0, c1]) rfl ⟨_, rfl, (HO.out.turned HT (OwnI.blockLt HO.out) (Or.inr (by omega))).mono (by omega), HN.out, ?_⟩
  exact ((HB.out.setCell (p := ⟨w.heap.size, 0, none⟩) (Nat.le_refl _) _).setCell (p := ⟨w.heap.size, 1, none⟩) (Nat.le_refl _) _)
set_option maxRecDepth 100000 in
theorem implFirstDesk_any (w : World) :
    Calls Try.prog 6 #[] w fun (r : Ending) w' => ∃ u, r = Ending.returned (.agg #[u, .int .i64 0]) ∧ OwnI 3 w' w.heap.size u (rectL 2 2) ∧ (rectL 2 2).length ≤ 1048576 ∧ Below w.heap.size w w' := by
  have HN := hid (show (rectL 2 2).length ≤ 1048576 from by rw [rectL22]; decide)
  go_enter Try.func6, Try.ntmps6
  have HA := hid (Blk.new w 26 #[.slice none 0 0, .int .i64 0])
  go_wp2_with fail
  refine (implRectangle_yes 2 2 _ (by decide +kernel) (by decide) (by decide) (by decide) (by decide) (by decide)).mono ?_
  rintro e w1 ⟨u, rfl, ho, -, hb⟩
  rw [show rectL ((2 : Nat) : Int) ((2 : Nat) : Int) = rectL 2 2 from rfl] at ho
  obtain ⟨uA, uc, rfl, -⟩ := ho.ints
  have h3 : OwnI 3 w1 (w.heap.size + 1) (.slice uA (rectL 2 2).length uc) (rectL 2 2) := by simpa using ho
  have HO := hid h3
  have HA1 := hid (HA.out.below hb (by simp))
  have hz : w.heap.size + 1 ≤ w1.heap.size := by have := hb.size; simp at this; omega
  have HB := hid (below_to (below_alloc (Below.refl _ w) _) hb)
  obtain ⟨n, hn⟩ : ∃ n, (rectL 2 2).length = n := ⟨_, rfl⟩
  rw [hn] at HO ⊢
  have HA2 := hid (HA1.out.alloc (.cells #[.slice uA n uc] 24))
  have c0 : (w1.alloc (.cells #[.slice uA n uc] 24)).cell? ⟨w.heap.size, 0, none⟩ = some (.slice none 0 0) := HA2.out.cell 0
  have c1 : (w1.alloc (.cells #[.slice uA n uc] 24)).cell? ⟨w.heap.size, 1, none⟩ = some (.int .i64 0) := HA2.out.cell 1
  have f0 := HA2.out.frozen 0
  have f1 := HA2.out.frozen 1
  clear ho hb h3
  go_wp2
  have HT := (((TurnedIn.refl w.heap.size (w.heap.size + 1) (w1.alloc (.cells #[.slice uA n uc] 24))).set_ ⟨w.heap.size, 0, none⟩ ⟨Nat.le_refl _, Nat.lt_succ_self _⟩ (.slice uA n uc)).set_ ⟨w.heap.size, 1, none⟩ ⟨Nat.le_refl _, Nat.lt_succ_self _⟩ (.int .i64 0))
  have HO2 := HO.out.alloc (.cells #[.slice uA n uc] 24)
  refine bodyPost_ret (v := .agg #[.slice uA n uc, .int .i64 0]) (by simp [results, Try.results6, go_sem, c0, c1]) rfl ⟨_, rfl, (HO2.turned HT (OwnI.blockLt HO2) (Or.inr (by omega))).mono (by omega), HN.out, ?_⟩
  exact (((below_alloc HB.out _).setCell (p := ⟨w.heap.size, 0, none⟩) (Nat.le_refl _) _).setCell (p := ⟨w.heap.size, 1, none⟩) (Nat.le_refl _) _)
theorem coGood_any (v : Value) (xs : List Int) (s : Int) (w : World) (hv : Ints w v xs) (hl : xs.length ≤ 1048576) :
    Calls Try.prog 20 #[.agg #[v, .int .i64 s]] w fun r w' => r = .returned (.bool (okIdeal xs s)) ∧ Below w.heap.size w w' := by
  have HV := hid hv
  obtain ⟨A, c, rfl, -⟩ := hv
  go_enter Try.func20, Try.ntmps20
  go_wp2_with (go_at_call 30; refine (tgIn_any _ xs s _ (HV.out.alloc _) hl).mono ?_; rintro e w1 ⟨rfl, hb1⟩)
  go_ret
  exact ⟨rfl, below_to (below_alloc (Below.refl _ w) _) hb1⟩
theorem specIsDesk_any (v : Value) (xs : List Int) (s : Int) (w : World) (hv : Ints w v xs) (hl : xs.length ≤ 1048576) :
    Calls Try.prog 11 #[.agg #[v, .int .i64 s]] w fun r w' => r = .returned (.bool (okIdeal xs s)) ∧ Below w.heap.size w w' := by
  have HV := hid hv
  obtain ⟨A, c, rfl, -⟩ := hv
  go_enter Try.func11, Try.ntmps11
  go_wp2_with (go_at_call 20; refine (coGood_any _ xs s _ (HV.out.alloc _) hl).mono ?_; rintro e w1 ⟨rfl, hb1⟩)
  go_ret
  exact ⟨rfl, below_to (below_alloc (Below.refl _ w) _) hb1⟩
theorem implIsDesk_any (v : Value) (xs : List Int) (s : Int) (w : World) (hv : Ints w v xs) (hl : xs.length ≤ 1048576) :
    Calls Try.prog 13 #[.agg #[v, .int .i64 s]] w fun r w' => r = .returned (.bool (okIdeal xs s)) ∧ Below w.heap.size w w' := by
  have HV := hid hv
  obtain ⟨A, c, rfl, -⟩ := hv
  go_enter Try.func13, Try.ntmps13
  go_wp2_with (go_at_call 22; refine (hasIdeal_any _ xs s _ (HV.out.alloc _) hl).mono ?_; rintro e w1 ⟨rfl, hb1⟩)
  go_ret
  exact ⟨rfl, below_to (below_alloc (Below.refl _ w) _) hb1⟩
end Go.Proofs.Ytbpnocboiankjab

/- The law's helpers for desks: sizes, copies, comparisons, marks. -/
namespace Go.Proofs.Ytbpnocboiankjab
open Go.RowKit Go.WideShapes Go.ChangeShapes
set_option linter.unusedVariables false

/-- a box of two cells -/
def At2 (w : World) (b : Nat) (v u : Value) : Prop := w.cell? ⟨b, 0, none⟩ = some v ∧ w.cell? ⟨b, 1, none⟩ = some u ∧ b < w.heap.size
theorem At2.below {w w' : World} {b : Nat} {v u : Value} (h : At2 w b v u) (hb : Below w.heap.size w w') : At2 w' b v u :=
  ⟨(hb.cell (p := ⟨b, 0, none⟩) h.2.2).trans h.1, (hb.cell (p := ⟨b, 1, none⟩) h.2.2).trans h.2.1, Nat.lt_of_lt_of_le h.2.2 hb.size⟩
theorem At2.alloc {w : World} {b : Nat} {v u : Value} (h : At2 w b v u) (o : Obj) : At2 (w.alloc o) b v u := h.below ((Below.refl _ _).alloc (Nat.le_refl _) o)
theorem At2.drew {w : World} {b : Nat} {v u : Value} (h : At2 w b v u) : At2 w.drew b v u := h.below (Go.Joins.below_draws _ _ 1)
theorem At2.new (w : World) (v u : Value) (t : TypeId) : At2 (w.alloc (.cells #[v, u] t)) w.heap.size v u := ⟨(Blk.new w t #[v, u]).cell 0, (Blk.new w t #[v, u]).cell 1, by simp⟩
theorem At2.newAt (w : World) (v u : Value) (t : TypeId) (b : Nat) (hb : b = w.heap.size) : At2 (w.alloc (.cells #[v, u] t)) b v u := by subst hb; exact At2.new w v u t
theorem At2.grown {w w' : World} {b : Nat} {v u : Value} {row : Option Nat} (h : At2 w b v u) (hg : w.grownBy w' row) (hne : row ≠ some b) : At2 w' b v u :=
  ⟨hg.cell (a := ⟨b, 0, none⟩) h.1 (fun e => hne e.symm), hg.cell (a := ⟨b, 1, none⟩) h.2.1 (fun e => hne e.symm), Nat.lt_of_lt_of_le h.2.2 hg.size⟩
theorem szDesk_any (v : Value) (xs : List Int) (s left : Int) (w : World) (hv : Ints w v xs) (hl : xs.length ≤ maxLen) (h0 : 0 ≤ left) (h1 : left ≤ 1048576) :
    Calls Try.prog 10 #[.agg #[v, .int .i64 s], .int .i64 left] w fun r w' => r = .returned (.int .i64 (szRes left xs.length)) ∧ Below w.heap.size w w' := by
  have HV := hid hv
  obtain ⟨A, c, rfl, -⟩ := hv
  by_cases hlt : left < xs.length
  · have Hs := hid (szRes_neg hlt)
    go_enter Try.func10, Try.ntmps10
    go_wp2_with (go_at_call 19; refine (szPoset_any _ xs _ _ (HV.out.alloc _) hl h0 h1).mono ?_; rw [Hs.out]; rintro e w1 ⟨rfl, hb1⟩)
    go_ret
    exact ⟨by rw [Hs.out]; rfl, below_to (below_alloc (Below.refl _ w) _) hb1⟩
  · have Hs := hid (szRes_pos hlt)
    have hn : 0 ≤ left - (xs.length : Int) := by omega
    obtain ⟨d, hd⟩ : ∃ d, left - (xs.length : Int) = d := ⟨_, rfl⟩
    rw [hd] at hn Hs
    go_enter Try.func10, Try.ntmps10
    go_wp2_with (go_at_call 19; refine (szPoset_any _ xs _ _ (HV.out.alloc _) hl h0 h1).mono ?_; rw [Hs.out]; rintro e w1 ⟨rfl, hb1⟩)
    go_ret
    exact ⟨by rw [Hs.out]; rfl, below_to (below_alloc (Below.refl _ w) _) hb1⟩
theorem toDesk_own (v : Value) (xs : List Int) (s : Int) (w : World) (hv : Ints w v xs) (hl : xs.length ≤ 1048576) :
    Calls Try.prog 12 #[.agg #[v, .int .i64 s]] w fun (r : Ending) w' => ∃ u, r = Ending.returned (.agg #[u, .int .i64 s]) ∧ OwnI 3 w' w.heap.size u xs ∧ Below w.heap.size w w' := by
  have HV := hid hv
  obtain ⟨A, c, rfl, -⟩ := hv
  go_enter Try.func12, Try.ntmps12
  have HA := hid (Blk.new w 33 #[.slice A xs.length c, .int .i64 s])
  go_wp2_with fail
  refine (toPoset_own _ xs _ (((HV.out.alloc _).alloc _).alloc _) hl).mono ?_
  rintro e w1 ⟨u, rfl, ho, hb⟩
  obtain ⟨uA, uc, rfl, -⟩ := ho.ints
  have h3 : OwnI 3 w1 (w.heap.size + 3) (.slice uA xs.length uc) xs := by simpa using ho
  have HO := hid h3
  have hz : w.heap.size + 3 ≤ w1.heap.size := by have := hb.size; simp at this; omega
  have HA1 := hid (((HA.out.alloc (.cells #[.slice none 0 0, .int .i64 0] 26)).alloc (.cells #[.slice none 0 0, .int .i64 0] 26)).below hb (by simp; omega))
  have HR : Hid (Blk w1 (w.heap.size + 1) 26 #[.slice none 0 0, .int .i64 0]) := hid (((Blk.newAt (w.alloc (.cells #[.slice A xs.length c, .int .i64 s] 33)) 26 #[.slice none 0 0, .int .i64 0] (w.heap.size + 1) (by simp)).alloc (.cells #[.slice none 0 0, .int .i64 0] 26)).below hb (by simp))
  have HR2 : Hid (Blk w1 (w.heap.size + 2) 26 #[.slice none 0 0, .int .i64 0]) := hid ((Blk.newAt ((w.alloc (.cells #[.slice A xs.length c, .int .i64 s] 33)).alloc (.cells #[.slice none 0 0, .int .i64 0] 26)) 26 #[.slice none 0 0, .int .i64 0] (w.heap.size + 2) (by simp)).below hb (by simp))
  have HB := hid (below_to (below_alloc (below_alloc (below_alloc (Below.refl _ w) _) _) _) hb)
  have c0 : w1.cell? ⟨w.heap.size, 0, none⟩ = some (.slice A xs.length c) := HA1.out.cell 0
  have c1 : w1.cell? ⟨w.heap.size, 1, none⟩ = some (.int .i64 s) := HA1.out.cell 1
  have d0 : w1.cell? ⟨w.heap.size + 1, 0, none⟩ = some (.slice none 0 0) := HR.out.cell 0
  have d1 : w1.cell? ⟨w.heap.size + 1, 1, none⟩ = some (.int .i64 0) := HR.out.cell 1
  have e0 : w1.cell? ⟨w.heap.size + 2, 0, none⟩ = some (.slice none 0 0) := HR2.out.cell 0
  have e1 : w1.cell? ⟨w.heap.size + 2, 1, none⟩ = some (.int .i64 0) := HR2.out.cell 1
  have f0 := HR.out.frozen 0
  have f1 := HR.out.frozen 1
  have g0 := HR2.out.frozen 0
  have g1 := HR2.out.frozen 1
  clear ho hb h3
  go_wp2
  have HT := (((((TurnedIn.refl (w.heap.size + 1) (w.heap.size + 3) w1).set_ ⟨w.heap.size + 1 + 1, 0, none⟩ ⟨by show w.heap.size + 1 ≤ w.heap.size + 1 + 1; omega, by show w.heap.size + 1 + 1 < w.heap.size + 3; omega⟩ (.slice uA xs.length uc)).set_ ⟨w.heap.size + 1 + 1, 1, none⟩ ⟨by show w.heap.size + 1 ≤ w.heap.size + 1 + 1; omega, by show w.heap.size + 1 + 1 < w.heap.size + 3; omega⟩ (.int .i64 s)).set_ ⟨w.heap.size + 1, 0, none⟩ ⟨Nat.le_refl _, by show w.heap.size + 1 < w.heap.size + 3; omega⟩ (.slice uA xs.length uc)).set_ ⟨w.heap.size + 1, 1, none⟩ ⟨Nat.le_refl _, by show w.heap.size + 1 < w.heap.size + 3; omega⟩ (.int .i64 s))
  refine bodyPost_ret (v := .agg #[.slice uA xs.length uc, .int .i64 s]) (by simp [results, Try.results12, go_sem, d0, d1]) rfl ⟨_, rfl, (HO.out.turned HT (OwnI.blockLt HO.out) (Or.inr (by omega))).mono (by omega), ?_⟩
  exact (((HB.out.setCell (p := ⟨w.heap.size + 1 + 1, 0, none⟩) (by show w.heap.size ≤ w.heap.size + 1 + 1; omega) _).setCell (p := ⟨w.heap.size + 1 + 1, 1, none⟩) (by show w.heap.size ≤ w.heap.size + 1 + 1; omega) _).setCell (p := ⟨w.heap.size + 1, 0, none⟩) (by show w.heap.size ≤ w.heap.size + 1; omega) _).setCell (p := ⟨w.heap.size + 1, 1, none⟩) (by show w.heap.size ≤ w.heap.size + 1; omega) _
theorem eqDesk_any (v u : Value) (xs : List Int) (s : Int) (w : World) (hv : Ints w v xs) (hu : Ints w u xs) (hl : xs.length ≤ 1048576) :
    Calls Try.prog 7 #[.agg #[v, .int .i64 s], .agg #[u, .int .i64 s]] w fun r w' => r = .returned (.bool true) ∧ Below w.heap.size w w' := by
  have HV := hid hv
  have HU := hid hu
  obtain ⟨A, c, rfl, -⟩ := hv
  obtain ⟨C, c2, rfl, -⟩ := hu
  go_enter Try.func7, Try.ntmps7
  go_wp2_with fail
  refine (eqPoset_any _ _ xs _ ((HV.out.alloc _).alloc _) ((HU.out.alloc _).alloc _) hl).mono ?_
  rintro e w1 ⟨rfl, hb⟩
  have a1 : w1.cell? ⟨w.heap.size, 1, none⟩ = some (.int .i64 s) := (((Blk.new w 26 #[.slice A xs.length c, .int .i64 s]).alloc (.cells #[.slice C xs.length c2, .int .i64 s] 26)).below hb (by simp; omega)).cell 1
  have b1 : w1.cell? ⟨w.heap.size + 1, 1, none⟩ = some (.int .i64 s) := ((Blk.newAt (w.alloc (.cells #[.slice A xs.length c, .int .i64 s] 26)) 26 #[.slice C xs.length c2, .int .i64 s] (w.heap.size + 1) (by simp)).below hb (by simp)).cell 1
  have HB := hid (below_to (below_alloc (below_alloc (Below.refl _ w) _) _) hb)
  clear hb
  go_wp2
  go_ret
  exact ⟨rfl, HB.out⟩
theorem markDesk_any (v : Value) (xs : List Int) (s k : Int) (B : Nat) (w : World) (hv : OwnI 3 w B v xs) (hl : xs.length ≤ 1048576) (h0 : 0 ≤ k) (h1 : k ≤ 1000000000000) :
    Calls Try.prog 8 #[.agg #[v, .int .i64 s], .int .i64 k] w fun r w' => r = .returned (.int .i64 (k + xs.length)) ∧ OwnI 3 w' B v (marks xs.length k) ∧ w.grownBy w' v.ownBlock := by
  have HO := hid hv
  obtain ⟨A, c, rfl, -⟩ := hv.ints
  clear hv
  go_enter Try.func8, Try.ntmps8
  go_wp2_with (go_at_call 17; refine (markPoset_any _ xs k B _ (HO.out.alloc _) hl h0 h1).mono ?_; rintro e w1 ⟨rfl, ho, hg⟩)
  go_ret
  exact ⟨rfl, ho, grown_trans (grown_of_below ((Below.refl _ _).alloc (Nat.le_refl _) _) _) hg⟩
theorem heldDesk_any (v : Value) (n : Nat) (s k : Int) (w : World) (hv : Ints w v (marks n k)) (hl : n ≤ 1048576) (h0 : 0 ≤ k) (h1 : k ≤ 1000000000000) :
    Calls Try.prog 9 #[.agg #[v, .int .i64 s], .int .i64 k] w fun r w' => r = .returned (.int .i64 (k + n)) ∧ Below w.heap.size w w' := by
  have HV := hid hv
  obtain ⟨A, c, rfl, -⟩ := hv
  have hn : ¬ k + (n : Int) < 0 := by omega
  obtain ⟨d, hd⟩ : ∃ d, k + (n : Int) = d := ⟨_, rfl⟩
  rw [hd] at hn
  have HD := hid hd
  clear hd
  go_enter Try.func9, Try.ntmps9
  go_wp2_with (go_at_call 18; refine (heldPoset_any _ n k _ (HV.out.alloc _) hl h0 h1).mono ?_; rw [HD.out]; rintro e w1 ⟨rfl, hb1⟩)
  go_ret
  exact ⟨by rw [HD.out]; rfl, below_to (below_alloc (Below.refl _ w) _) hb1⟩
end Go.Proofs.Ytbpnocboiankjab

/- FnExactIsDesk: the law's walk (by genlaw.py). -/
namespace Go.Proofs.Ytbpnocboiankjab.lawIsDesk
open Go.RowKit Go.WideShapes Go.ChangeShapes
set_option linter.unusedVariables false
set_option maxRecDepth 100000 in
set_option maxHeartbeats 1000000 in
theorem walkBig0 (v0 : Value) (xs0 : List Int) (n0 : Int) (w : World) (hv0 : Ints w v0 xs0) (hm0 : xs0.length ≤ maxLen) (wf0 : (Lit.int .i64 n0).wf = true) (HS0 : Hid (szRes (1048576 : Int) xs0.length = -1)) :
    Calls Try.prog 4 #[.agg #[v0, .int .i64 n0]] w fun e w' => e = .returned (.bool true) ∧ Below w.heap.size w w' := by
  have hv0q := hv0
  obtain ⟨A0, c0, hsh0, -⟩ := hv0q
  subst hsh0
  have HV0 := hid hv0
  clear hv0
  have WF0 := hid wf0
  clear wf0
  go_enter Try.func4, Try.ntmps4
  go_wp2_with fail
  refine (szDesk_any (.slice A0 xs0.length c0) xs0 _ _ _ (HV0.out.later (below_alloc (Below.refl _ w) _)) hm0 (by omega) (by omega)).mono ?_
  rw [HS0.out]
  rintro e w_1 ⟨rfl, hb2⟩
  have F3 := hid ((At2.new w (.slice A0 xs0.length c0) (.int .i64 (n0)) 33).below hb2)
  have G4 := hid (below_to (below_alloc (Below.refl _ w) _) hb2)
  have Z5 := hid (show w.heap.size + 1 ≤ w_1.heap.size by have := hb2.size; first | omega | (simp at this; omega))
  clear hb2
  go_wp2
  go_ret
  exact ⟨rfl, G4.out⟩
set_option maxRecDepth 100000 in
set_option maxHeartbeats 8000000 in
theorem walkSmall (v0 : Value) (xs0 : List Int) (n0 : Int) (w : World) (hv0 : Ints w v0 xs0) (hm0 : xs0.length ≤ maxLen) (wf0 : (Lit.int .i64 n0).wf = true) (HS0 : Hid (szRes (1048576 : Int) xs0.length = (1048576 : Int) - xs0.length)) (hq0 : ¬ (1048576 : Int) < xs0.length) (hl0 : xs0.length ≤ 1048576) :
    Calls Try.prog 4 #[.agg #[v0, .int .i64 n0]] w fun e w' => e = .returned (.bool true) ∧ Below w.heap.size w w' := by
  have hv0q := hv0
  obtain ⟨A0, c0, hsh0, -⟩ := hv0q
  subst hsh0
  have HV0 := hid hv0
  clear hv0
  have WF0 := hid wf0
  clear wf0
  go_enter Try.func4, Try.ntmps4
  go_wp2_with fail
  refine (szDesk_any (.slice A0 xs0.length c0) xs0 _ _ _ (HV0.out.later (below_alloc (Below.refl _ w) _)) hm0 (by omega) (by omega)).mono ?_
  rw [HS0.out]
  rintro e w_6 ⟨rfl, hb7⟩
  have F8 := hid ((At2.new w (.slice A0 xs0.length c0) (.int .i64 (n0)) 33).below hb7)
  have G9 := hid (below_to (below_alloc (Below.refl _ w) _) hb7)
  have Z10 := hid (show w.heap.size + 1 ≤ w_6.heap.size by have := hb7.size; first | omega | (simp at this; omega))
  clear hb7
  have e11 := F8.out.1
  have e11z := F8.out.2.1
  have e11y := F8.out.2.2
  go_wp2_with fail
  clear e11 e11z e11y
  refine (toDesk_own (.slice A0 xs0.length c0) xs0 (n0) _ (HV0.out.later G9.out) hl0).mono ?_
  rintro e w_12 ⟨u13, rfl, ho15, hb14⟩
  have F16 := hid (F8.out.below hb14)
  have G17 := hid (below_to G9.out hb14)
  have Z18 := hid (show w_6.heap.size + 0 ≤ w_12.heap.size by have := hb14.size; first | omega | (simp at this; omega))
  have hn19 := ho15
  obtain ⟨u13A, u13n, u13c, rfl⟩ := hn19.shape3
  have U20 := hid (OwnI.blockLt hn19)
  have F21 := hid hn19
  clear F8 G9 hb14 ho15 hn19
  have e22 := F16.out.1
  have e22z := F16.out.2.1
  have e22y := F16.out.2.2
  go_wp2_with fail
  clear e22 e22z e22y
  refine (specIsDesk_any (Value.slice u13A u13n u13c) xs0 (n0) _ F21.out.ints hl0).mono ?_
  rintro e w_23 ⟨rfl, hb24⟩
  have F25 := hid (F16.out.below hb24)
  have F26 := hid (F21.out.below hb24)
  have G27 := hid (below_to G17.out hb24)
  have Z28 := hid (show w_12.heap.size + 0 ≤ w_23.heap.size by have := hb24.size; first | omega | (simp at this; omega))
  clear F16 F21 G17 hb24
  have e29 := F25.out.1
  have e29z := F25.out.2.1
  have e29y := F25.out.2.2
  go_wp2_with fail
  clear e29 e29z e29y
  refine (toDesk_own (.slice A0 xs0.length c0) xs0 (n0) _ (HV0.out.later G27.out) hl0).mono ?_
  rintro e w_30 ⟨u31, rfl, ho33, hb32⟩
  have F34 := hid (F25.out.below hb32)
  have F35 := hid (F26.out.below hb32)
  have G36 := hid (below_to G27.out hb32)
  have Z37 := hid (show w_23.heap.size + 0 ≤ w_30.heap.size by have := hb32.size; first | omega | (simp at this; omega))
  have hn38 := ho33
  obtain ⟨u31A, u31n, u31c, rfl⟩ := hn38.shape3
  have U39 := hid (OwnI.blockLt hn38)
  have F40 := hid hn38
  clear F25 F26 G27 hb32 ho33 hn38
  have e41 := F34.out.1
  have e41z := F34.out.2.1
  have e41y := F34.out.2.2
  go_wp2_with fail
  clear e41 e41z e41y
  refine (implIsDesk_any (Value.slice u31A u31n u31c) xs0 (n0) _ (F40.out.alloc _).ints hl0).mono ?_
  rintro e w_42 ⟨rfl, hb43⟩
  have F44 := hid ((F34.out.alloc _).below hb43)
  have F45 := hid ((F35.out.alloc _).below hb43)
  have F46 := hid ((F40.out.alloc _).below hb43)
  have F47 := hid ((At2.new w_30 (Value.slice u31A u31n u31c) (.int .i64 (n0)) 26).below hb43)
  have G48 := hid (below_to (below_alloc G36.out _) hb43)
  have Z49 := hid (show w_30.heap.size + 1 ≤ w_42.heap.size by have := hb43.size; first | omega | (simp at this; omega))
  clear F34 F35 F40 G36 hb43
  have e50 := F44.out.1
  have e50z := F44.out.2.1
  have e50y := F44.out.2.2
  have e51 := F47.out.1
  have e51z := F47.out.2.1
  have e51y := F47.out.2.2
  go_upto_region 10 with fail
  go_cut [26] (fun s wx => s = .bool false ∧ At2 wx (w.heap.size) (.slice A0 xs0.length c0) (.int .i64 (n0)) ∧ OwnI 3 wx (w_6.heap.size) (Value.slice u13A u13n u13c) xs0 ∧ OwnI 3 wx (w_23.heap.size) (Value.slice u31A u31n u31c) xs0 ∧ At2 wx (w_30.heap.size) (Value.slice u31A u31n u31c) (.int .i64 (n0)) ∧ w_42.heap.size ≤ wx.heap.size ∧ Below w.heap.size w wx)
  case first =>
    go_region_with (first | (go_at_call 12; refine (toDesk_own (.slice A0 xs0.length c0) xs0 (n0) _ (((HV0.out.later G48.out)).drew) hl0).mono ?_; rintro e w_52 ⟨u53, rfl, ho3, hb54⟩; have K0 := hid (F44.out.drew.below hb54); have K1 := hid (F45.out.drew.below hb54); have K2 := hid (F46.out.drew.below hb54); have K3 := hid (F47.out.drew.below hb54); have KZ := hid (show w_42.heap.size ≤ w_52.heap.size by have := hb54.size; simpa using this); have KB := hid (below_to G48.out.drew hb54); have KO := hid ho3; have hx6 := K3.out.1; have hx6b := K3.out.2.1; clear ho3 hb54) | (go_at_call 7; refine (eqDesk_any _ _ (xs0) (n0) _ K2.out.ints KO.out.ints hl0).mono ?_; rintro e w_55 ⟨rfl, hb56⟩; have M0 := hid (K0.out.below hb56); have M1 := hid (K1.out.below hb56); have M2 := hid (K2.out.below hb56); have M3 := hid (K3.out.below hb56); have MZ := hid (show w_42.heap.size ≤ w_55.heap.size by have := hb56.size; have := KZ.out; omega); have MB := hid (below_to KB.out hb56); clear hb56))
    all_goals (go_wp2_with fail; go_meet; exact ⟨rfl, M0.out, M1.out, M2.out, M3.out, MZ.out, MB.out⟩)
  case rest =>
    clear e50 e50z e50y e51 e51z e51y
    obtain ⟨rfl, c0, c1, c2, c3, hzc, hbc⟩ := hcut
    obtain ⟨wc57, rfl⟩ : ∃ x, x = wc := ⟨wc, rfl⟩
    have F58 := hid c0
    have F59 := hid c1
    have F60 := hid c2
    have F61 := hid c3
    have Z62 := hid hzc
    have G63 := hid hbc
    clear c0 F44 c1 F45 c2 F46 c3 F47 hzc hbc G48
    go_wp2
    go_ret
    exact ⟨rfl, G63.out⟩
theorem walk (v0 : Value) (xs0 : List Int) (n0 : Int) (w : World) (hv0 : Ints w v0 xs0) (hm0 : xs0.length ≤ maxLen) (wf0 : (Lit.int .i64 n0).wf = true) :
    Calls Try.prog 4 #[.agg #[v0, .int .i64 n0]] w fun e w' => e = .returned (.bool true) ∧ Below w.heap.size w w' := by
  by_cases hq0 : (1048576 : Int) < xs0.length
  · exact walkBig0 v0 xs0 n0 w hv0 hm0 wf0   (hid (szRes_neg hq0))
  exact walkSmall v0 xs0 n0 w hv0 hm0 wf0  (hid (szRes_pos hq0)) hq0 (by omega)
end Go.Proofs.Ytbpnocboiankjab.lawIsDesk

/- A desk among the arguments, opened. -/
namespace Go.Proofs.Ytbpnocboiankjab
open Go.RowKit Go.WideShapes Go.ChangeShapes Go.ChangeAt
set_option linter.unusedVariables false

theorem ints_trod {H : Type} {enc : TypeId × Value → H} {P : Program} {w : World} {base : Nat} {spare : Nat → Bool} {held : Bool} {ts ti : TypeId} {c0 : Value} {n : Nat} {y0 : DataW H × List MemPlace}
    (hts : P.underlying ts = some (.slice ti)) (hti : P.underlying ti = some (.int .i64)) (hc1 : P.cellsOf ti = 1) (h0 : DataW.trod enc P w base spare held n ts [c0] = some y0) :
    ∃ xs : List Int, Ints w c0 xs ∧ xs.length ≤ maxLen := by
  rcases open_ints hts hti hc1 h0 with ⟨hcs, _⟩ | ⟨a, len, cap, zs, hcs, _, hle, hm, hz, _, hc, _⟩
  · simp only [List.cons.injEq, and_true] at hcs
    subst hcs
    exact ⟨[], ⟨none, 0, rfl, fun h => absurd rfl h⟩, by simp⟩
  · simp only [List.cons.injEq, and_true] at hcs
    subst hcs
    have hzl : len ≤ zs.length := by rw [hz]; split <;> omega
    have hl' : (zs.take len).length = len := by rw [List.length_take]; omega
    refine ⟨zs.take len, ⟨some a, cap, by rw [hl'], fun hx => ?_⟩, by rw [hl']; omega⟩
    have hp : 0 < len := by
      rcases Nat.eq_zero_or_pos len with h0 | h0
      · subst h0; simp at hx
      · exact h0
    obtain ⟨b, off, rfl, hcell⟩ := ints_at hc (by omega)
    refine ⟨b, off, rfl, ?_, fun j hj => ?_⟩
    · have := hcell 0 (by omega)
      exact World.block_lt_of_cell? w _ this
    · rw [hl'] at hj
      rw [hcell j (by omega)]
      congr 2
      simp [List.getD, hj]
theorem open_desk {H : Type} {enc : TypeId × Value → H} {P : Program} {w : World} {base : Nat} {spare : Nat → Bool} {held : Bool} {r : Reach} {b0 : Nat} {td tp ts ti : TypeId} {f0 f1 g0 : Field} {v : Value} {d : DataW H} {p : List MemPlace}
    (hs : P.underlying td = some (.struct #[f0, f1])) (hf0 : f0.type = tp) (ho0 : f0.offset = 0) (hf1 : f1.type = ti) (ho1 : f1.offset = 1) (hC : P.cellsOf td = 2) (hC1 : P.cellsOf tp = 1)
    (hp : P.underlying tp = some (.struct #[g0])) (hg : g0.type = ts) (hgo : g0.offset = 0) (hCs : P.cellsOf ts = 1)
    (hts : P.underlying ts = some (.slice ti)) (hti : P.underlying ti = some (.int .i64)) (hc1 : P.cellsOf ti = 1)
    (hv : Value.okWide P w r b0 td v) (h : DataW.Trod enc P w base spare held td v d p) :
    ∃ (u : Value) (xs : List Int) (s : Int), v = .agg #[u, .int .i64 s] ∧ Ints w u xs ∧ xs.length ≤ maxLen ∧ (Lit.int .i64 s).wf = true := by
  obtain ⟨cs, rfl, hsz⟩ := okWide_struct hs hv
  obtain ⟨c0, c1, rfl⟩ : ∃ c0 c1, cs = #[c0, c1] := by
    obtain ⟨l⟩ := cs
    match l, hsz.trans hC with
    | [c0, c1], _ => exact ⟨c0, c1, rfl⟩
  obtain ⟨fuel, hf⟩ := h
  obtain ⟨y0, y1, n, -, -, h0, h1⟩ := trod_struct2 hs hf
  rw [hf0, ho0, hC1] at h0
  rw [hf1, ho1, hc1] at h1
  have h0' : DataW.trod enc P w base spare held n tp [c0] = some y0 := by simpa [Value.cells] using h0
  have h1' : DataW.trod enc P w base spare held n ti [c1] = some y1 := by simpa [Value.cells] using h1
  obtain ⟨z0, m, -, -, k0⟩ := trod_struct1 hp h0'
  rw [hg, hgo, hCs] at k0
  have k0' : DataW.trod enc P w base spare held m ts [c0] = some z0 := by simpa using k0
  obtain ⟨xs, hx, hm⟩ := ints_trod hts hti hc1 k0'
  obtain ⟨s, hs1, -, hw⟩ := DataW.trod_int hti h1'
  simp at hs1
  subst hs1
  exact ⟨c0, xs, s, rfl, hx, hm, hw⟩
end Go.Proofs.Ytbpnocboiankjab
