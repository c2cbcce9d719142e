/- All orbits, by the model; their lengths. -/
import Derived.Test.YtnlehkjfidpdlabAddRow
import Derived.Test.YtnlehkjfidpdlabOrbS
import Derived.Test.YtnlehkjfidpdlabMean
import Derived.Test.YtnlehkjfidpdlabCycR
namespace Go.Proofs.Ytnlehkjfidpdlab
open Go.RowKit Go.WideShapes Go.ChangeShapes
set_option linter.unusedVariables false

theorem OwnSS.monoB {ti ts : TypeId} {w : World} {B B' E : Nat} {v : Value} {ls : List (List Int)} (h : OwnSS ti ts w B E v ls) (hB : B' ≤ B) : OwnSS ti ts w B' E v ls := by
  obtain ⟨us, h1, h2, h3, h4, h5⟩ := h
  refine ⟨us, h1, ?_, h3, fun j u l hu hl => ⟨(h4 j u l hu hl).1.mono hB, (h4 j u l hu hl).2⟩, h5⟩
  obtain ⟨a1, a2⟩ := h2
  refine ⟨a1, ?_⟩
  rcases a2 with a2 | ⟨g, cap, cur, hv, hg, r⟩
  · exact .inl a2
  · exact .inr ⟨g, cap, cur, hv, by omega, r⟩
/-- the orbits that begin with the given sets -/
def orbsOf (f : Nat → Nat) (N : Nat) (st : List Nat) : List (List Int) := st.map (orbL f N)
theorem orbsOf_snoc (f : Nat → Nat) (N : Nat) (st : List Nat) (s : Nat) : orbsOf f N (st ++ [s]) = orbsOf f N st ++ [orbL f N s] := by simp [orbsOf]
theorem orbsOf_length (f : Nat → Nat) (N : Nat) (st : List Nat) : (orbsOf f N st).length = st.length := by simp [orbsOf]
def allXs (xs : List Int) : List (List Int) := orbsOf (rowmo xs) (2 ^ xs.length) (starts (rowmo xs) (2 ^ xs.length) (idsXs xs))
theorem idsXs_D (xs : List Int) (j : Nat) (hj : j < (idsXs xs).length) : idB xs ((idsXs xs).getD j 0).toNat = true := by
  obtain ⟨s, h1, h2, h3⟩ := setsL_bound (f := holdsIdeal xs) (N := 2 ^ xs.length) hj
  have : (idsXs xs).getD j 0 = (s : Int) := h1
  rw [this, Int.toNat_natCast]
  exact idB_iff.2 ⟨h2, h3⟩
/-- the marks behind k elements of an orbit -/
def mkOrb (f : Nat → Nat) (N : Nat) (st : List Nat) (s k : Nat) : List Bool := marksB (fun x => seenB f N st x || (orbT f s k).contains x) N
theorem mkOrb_zero (f : Nat → Nat) (N : Nat) (st : List Nat) (s : Nat) : mkOrb f N st s 0 = marksB (seenB f N st) N := marksB_congr fun t _ => by simp [orbT]
theorem mkOrb_set (f : Nat → Nat) (N : Nat) (st : List Nat) (s k : Nat) : (mkOrb f N st s k).set (iter f k s) true = mkOrb f N st s (k + 1) := by
  unfold mkOrb
  rw [marksB_set]
  exact marksB_congr fun t _ => by rw [orbT_contains_succ, Bool.or_assoc]
theorem mkOrb_full (f : Nat → Nat) (N : Nat) (st : List Nat) (s : Nat) : mkOrb f N st s (per f N s) = marksB (seenB f N (st ++ [s])) N := marksB_congr fun t _ => by rw [seenB_snoc]; rfl
theorem mkOrb_length (f : Nat → Nat) (N : Nat) (st : List Nat) (s k : Nat) : (mkOrb f N st s k).length = N := marksB_length _ _
end Go.Proofs.Ytnlehkjfidpdlab
