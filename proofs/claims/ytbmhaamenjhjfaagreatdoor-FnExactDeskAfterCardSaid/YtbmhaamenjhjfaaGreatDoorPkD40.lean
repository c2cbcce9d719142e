/- Base Law Join LawD -/
import Derived.Handy
import Derived.Laws.BitsAllLaws
import Derived.Laws.BitsLemmas
import Derived.Below
import Derived.Deep.QuietTactic
import Derived.BigQuiet
import Derived.Lib.SmallJoins
import Derived.Laws.MakeOwn
import Derived.Laws.OwnMore
import Derived.Deep.OwnRows
import Derived.ChangeSame
import Derived.Deep.RegionWith
import Derived.Test.YtbmhaamenjhjfaaGreatDoorRows
import Derived.Outline
import Derived.Deep.AppendLies
import Derived.BigRegion
import Derived.Deep.RegionLaw
import Derived.Test.YtbmhaamenjhjfaaGreatDoorPkD13
import Derived.Test.YtbmhaamenjhjfaaGreatDoorPkD36
namespace Go.Proofs.YtbmhaamenjhjfaaGreatDoor
open Go.RowKit Go.WideShapes Go.ChangeShapes
theorem row_ne_box {u : Value} {B E b : Nat} (h : ∀ k, u.ownBlock = some k → B ≤ k ∧ k < E) (hb : b < B ∨ E ≤ b) : u.ownBlock ≠ some b := fun e => by have := h b e; omega
section
variable {H : Type} {enc : TypeId × Value → H} {P : Program}
end
end Go.Proofs.YtbmhaamenjhjfaaGreatDoor
namespace Go.Proofs.YtbmhaamenjhjfaaGreatDoor
open Go.RowKit Go.WideShapes Go.ChangeShapes
theorem eqPoset_any (v u : Value) (xs : List Int) (w : World) (hv : Ints w v xs) (hu : Ints w u xs) (hl : xs.length ≤ 1048576) :
    Calls Tryz.prog 37 #[.agg #[v], .agg #[u]] w fun r w' => r = .returned (.bool true) ∧ Below w.heap.size w w' := by
  have HV := hid hv
  have HU := hid hu
  clear hv hu
  go_enter Tryz.func37, Tryz.ntmps37
  go_wp2_with (go_at_call 23; refine (eqIntS_any v u xs _ ((HV.out.alloc _).alloc _) ((HU.out.alloc _).alloc _) hl).mono ?_; rintro e w1 ⟨rfl, hb1⟩)
  go_ret
  exact ⟨rfl, (((Below.refl _ _).alloc (Nat.le_refl _) _).alloc (by simp) _).trans (hb1.mono (by simp; omega))⟩
theorem markPoset_any (v : Value) (xs : List Int) (k : Int) (B : Nat) (w : World) (hv : OwnI 3 w B v xs) (hl : xs.length ≤ 1048576) (h0 : 0 ≤ k) (h1 : k ≤ 1000000000000) :
    Calls Tryz.prog 38 #[.agg #[v], .int .i64 k] w fun r w' => r = .returned (.int .i64 (k + xs.length)) ∧ OwnI 3 w' B v (marks xs.length k) ∧ w.grownBy w' v.ownBlock := by
  have HO := hid hv
  clear hv
  go_enter Tryz.func38, Tryz.ntmps38
  go_wp2_with (go_at_call 24; refine (markIntS_any v xs k B _ (HO.out.alloc _) hl h0 h1).mono ?_; rintro e w1 ⟨rfl, ho, hg⟩)
  go_ret
  exact ⟨rfl, ho, grown_trans (grown_of_below ((Below.refl _ _).alloc (Nat.le_refl _) _) _) hg⟩
theorem heldPoset_any (v : Value) (n : Nat) (k : Int) (w : World) (hv : Ints w v (marks n k)) (hl : n ≤ 1048576) (h0 : 0 ≤ k) (h1 : k ≤ 1000000000000) :
    Calls Tryz.prog 39 #[.agg #[v], .int .i64 k] w fun r w' => r = .returned (.int .i64 (k + n)) ∧ Below w.heap.size w w' := by
  have HV := hid hv
  clear hv
  go_enter Tryz.func39, Tryz.ntmps39
  go_wp2_with (go_at_call 25; refine (heldIntS_any v n k _ (HV.out.alloc _) hl h0 h1).mono ?_; rintro e w1 ⟨rfl, hb1⟩)
  go_ret
  exact ⟨rfl, ((Below.refl _ _).alloc (Nat.le_refl _) _).trans (hb1.mono (by simp))⟩
end Go.Proofs.YtbmhaamenjhjfaaGreatDoor
namespace Go.Proofs.YtbmhaamenjhjfaaGreatDoor
open Go.RowKit Go.WideShapes Go.ChangeShapes
set_option linter.unusedVariables false
theorem l1Own_any (v : Value) (xs : List Int) (w : World) (hv : Ints w v xs) (hl : xs.length ≤ 1048576) :
    Calls Tryz.prog 49 #[v] w fun (r : Ending) w' => ∃ u, r = Ending.returned u ∧ OwnI 3 w' w.heap.size u xs ∧ Below w.heap.size w w' := by
  have HV := hid hv
  clear hv
  go_enter Tryz.func49, Tryz.ntmps49
  go_wp2_with (at_builtin; refine wpList_append_ints rfl _ _ 22 3 rfl Tryz.underlying22 Tryz.info3 w.heap.size _ [] rfl (OwnI.empty 3 w) _ xs rfl (HV.out.alloc _) (by simpa using hl) (by simp) ?_; rintro u w1 ho hb)
  go_ret
  exact ⟨_, rfl, by simpa using ho, (below_alloc (Below.refl _ w) _).trans hb⟩
end Go.Proofs.YtbmhaamenjhjfaaGreatDoor
namespace Go.Proofs.YtbmhaamenjhjfaaGreatDoor
open Go.RowKit Go.WideShapes Go.ChangeShapes
set_option linter.unusedVariables false
def At2 (w : World) (b : Nat) (v u : Value) : Prop := w.cell? ⟨b, 0, none⟩ = some v ∧ w.cell? ⟨b, 1, none⟩ = some u ∧ b < w.heap.size
theorem At2.below {w w' : World} {b : Nat} {v u : Value} (h : At2 w b v u) (hb : Below w.heap.size w w') : At2 w' b v u :=
  ⟨(hb.cell (p := ⟨b, 0, none⟩) h.2.2).trans h.1, (hb.cell (p := ⟨b, 1, none⟩) h.2.2).trans h.2.1, Nat.lt_of_lt_of_le h.2.2 hb.size⟩
theorem At2.alloc {w : World} {b : Nat} {v u : Value} (h : At2 w b v u) (o : Obj) : At2 (w.alloc o) b v u := h.below ((Below.refl _ _).alloc (Nat.le_refl _) o)
theorem At2.drew {w : World} {b : Nat} {v u : Value} (h : At2 w b v u) : At2 w.drew b v u := h.below (Go.Joins.below_draws _ _ 1)
theorem At2.new (w : World) (v u : Value) (t : TypeId) : At2 (w.alloc (.cells #[v, u] t)) w.heap.size v u := ⟨(Blk.new w t #[v, u]).cell 0, (Blk.new w t #[v, u]).cell 1, by simp⟩
theorem At2.newAt (w : World) (v u : Value) (t : TypeId) (b : Nat) (hb : b = w.heap.size) : At2 (w.alloc (.cells #[v, u] t)) b v u := by subst hb; exact At2.new w v u t
theorem At2.grown {w w' : World} {b : Nat} {v u : Value} {row : Option Nat} (h : At2 w b v u) (hg : w.grownBy w' row) (hne : row ≠ some b) : At2 w' b v u :=
  ⟨hg.cell (a := ⟨b, 0, none⟩) h.1 (fun e => hne e.symm), hg.cell (a := ⟨b, 1, none⟩) h.2.1 (fun e => hne e.symm), Nat.lt_of_lt_of_le h.2.2 hg.size⟩
theorem eqDesk_any (v u : Value) (xs : List Int) (s : Int) (w : World) (hv : Ints w v xs) (hu : Ints w u xs) (hl : xs.length ≤ 1048576) :
    Calls Tryz.prog 11 #[.agg #[v, .int .i64 s], .agg #[u, .int .i64 s]] w fun r w' => r = .returned (.bool true) ∧ Below w.heap.size w w' := by
  have HV := hid hv
  have HU := hid hu
  obtain ⟨A, c, rfl, -⟩ := hv
  obtain ⟨C, c2, rfl, -⟩ := hu
  go_enter Tryz.func11, Tryz.ntmps11
  go_wp2_with fail
  refine (eqPoset_any _ _ xs _ ((HV.out.alloc _).alloc _) ((HU.out.alloc _).alloc _) hl).mono ?_
  rintro e w1 ⟨rfl, hb⟩
  have a1 : w1.cell? ⟨w.heap.size, 1, none⟩ = some (.int .i64 s) := (((Blk.new w 30 #[.slice A xs.length c, .int .i64 s]).alloc (.cells #[.slice C xs.length c2, .int .i64 s] 30)).below hb (by simp; omega)).cell 1
  have b1 : w1.cell? ⟨w.heap.size + 1, 1, none⟩ = some (.int .i64 s) := ((Blk.newAt (w.alloc (.cells #[.slice A xs.length c, .int .i64 s] 30)) 30 #[.slice C xs.length c2, .int .i64 s] (w.heap.size + 1) (by simp)).below hb (by simp)).cell 1
  have HB := hid (below_to (below_alloc (below_alloc (Below.refl _ w) _) _) hb)
  clear hb
  go_wp2
  go_ret
  exact ⟨rfl, HB.out⟩
theorem markDesk_any (v : Value) (xs : List Int) (s k : Int) (B : Nat) (w : World) (hv : OwnI 3 w B v xs) (hl : xs.length ≤ 1048576) (h0 : 0 ≤ k) (h1 : k ≤ 1000000000000) :
    Calls Tryz.prog 12 #[.agg #[v, .int .i64 s], .int .i64 k] w fun r w' => r = .returned (.int .i64 (k + xs.length)) ∧ OwnI 3 w' B v (marks xs.length k) ∧ w.grownBy w' v.ownBlock := by
  have HO := hid hv
  obtain ⟨A, c, rfl, -⟩ := hv.ints
  clear hv
  go_enter Tryz.func12, Tryz.ntmps12
  go_wp2_with (go_at_call 38; refine (markPoset_any _ xs k B _ (HO.out.alloc _) hl h0 h1).mono ?_; rintro e w1 ⟨rfl, ho, hg⟩)
  go_ret
  exact ⟨rfl, ho, grown_trans (grown_of_below ((Below.refl _ _).alloc (Nat.le_refl _) _) _) hg⟩
theorem heldDesk_any (v : Value) (n : Nat) (s k : Int) (w : World) (hv : Ints w v (marks n k)) (hl : n ≤ 1048576) (h0 : 0 ≤ k) (h1 : k ≤ 1000000000000) :
    Calls Tryz.prog 13 #[.agg #[v, .int .i64 s], .int .i64 k] w fun r w' => r = .returned (.int .i64 (k + n)) ∧ Below w.heap.size w w' := by
  have HV := hid hv
  obtain ⟨A, c, rfl, -⟩ := hv
  have hn : ¬ k + (n : Int) < 0 := by omega
  obtain ⟨d, hd⟩ : ∃ d, k + (n : Int) = d := ⟨_, rfl⟩
  rw [hd] at hn
  have HD := hid hd
  clear hd
  go_enter Tryz.func13, Tryz.ntmps13
  go_wp2_with (go_at_call 39; refine (heldPoset_any _ n k _ (HV.out.alloc _) hl h0 h1).mono ?_; rw [HD.out]; rintro e w1 ⟨rfl, hb1⟩)
  go_ret
  exact ⟨by rw [HD.out]; rfl, below_to (below_alloc (Below.refl _ w) _) hb1⟩
end Go.Proofs.YtbmhaamenjhjfaaGreatDoor
