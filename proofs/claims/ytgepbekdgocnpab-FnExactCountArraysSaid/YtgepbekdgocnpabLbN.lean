/- The next labels in order: what the list of all labels is, one behind the other. -/
import Derived.Test.YtgepbekdgocnpabLbA
namespace Go.Proofs.Ytgepbekdgocnpab
open Go.RowKit Go.WideShapes Go.ChangeShapes
set_option linter.unusedVariables false

/-- the list with r more labels, each the least one -/
def fillF (xs : List Int) : Nat → List Int → List Int
  | 0, f => f
  | r + 1, f => fillF xs r (f ++ [(lstN xs f : Int)])
theorem fillF_length (xs : List Int) (r : Nat) (f : List Int) : (fillF xs r f).length = f.length + r := by
  induction r generalizing f with
  | zero => rfl
  | succ r ih => rw [fillF, ih, List.length_append, List.length_singleton]; omega
theorem fillF_snoc (xs : List Int) (r : Nat) (f : List Int) : fillF xs (r + 1) f = fillF xs r f ++ [(lstN xs (fillF xs r f) : Int)] := by
  induction r generalizing f with
  | zero => rfl
  | succ r ih => rw [fillF, ih]; rfl
theorem lstN_rng {xs f : List Int} {m : Nat} (h : ∀ j, j < f.length → f.getD j 0 ≤ m) : lstN xs f ≤ m := by
  have h1 : leN xs f f.length 0 f.length ≤ m := leN_le.2 ⟨by omega, fun j hj _ => by have := h j hj; omega⟩
  rw [← lstN_int] at h1
  omega
theorem rng_snoc {f : List Int} {x : Int} {m : Nat} (h : ∀ j, j < f.length → 0 ≤ f.getD j 0 ∧ f.getD j 0 ≤ m) (hx : 0 ≤ x ∧ x ≤ m) : ∀ j, j < (f ++ [x]).length → 0 ≤ (f ++ [x]).getD j 0 ∧ (f ++ [x]).getD j 0 ≤ m := by
  intro j hj
  rw [List.length_append, List.length_singleton] at hj
  by_cases e : j = f.length
  · subst e; rw [getD_snoc_eq]; exact hx
  · rw [getD_snoc_lt (by omega)]; exact h j (by omega)
theorem fillF_rng {xs : List Int} {m : Nat} (r : Nat) (f : List Int) (h : ∀ j, j < f.length → 0 ≤ f.getD j 0 ∧ f.getD j 0 ≤ m) : ∀ j, j < (fillF xs r f).length → 0 ≤ (fillF xs r f).getD j 0 ∧ (fillF xs r f).getD j 0 ≤ m := by
  induction r generalizing f with
  | zero => exact h
  | succ r ih =>
    rw [fillF]
    have := lstN_rng (xs := xs) (m := m) (fun j hj => (h j hj).2)
    exact ih _ (rng_snoc h ⟨by omega, by omega⟩)
/-- h are the labels behind g -/
def Nx (xs : List Int) (m : Nat) (g h : List Int) : Prop :=
  ∃ e, e < g.length ∧ g.getD e 0 ≠ m ∧ (∀ j, e < j → j < g.length → g.getD j 0 = m) ∧ h = fillF xs (g.length - e - 1) (g.take e ++ [g.getD e 0 + 1])
def AllM (m : Nat) (g : List Int) : Prop := ∀ j, j < g.length → g.getD j 0 = m
theorem Nx.fn {xs : List Int} {m : Nat} {g h h' : List Int} (a : Nx xs m g h) (b : Nx xs m g h') : h = h' := by
  obtain ⟨e, h1, h2, h3, rfl⟩ := a
  obtain ⟨e', k1, k2, k3, rfl⟩ := b
  have : e = e' := by
    rcases Nat.lt_trichotomy e e' with q | q | q
    · exact absurd (h3 e' q k1) k2
    · exact q
    · exact absurd (k3 e q h1) h2
  subst this; rfl
theorem Nx.notM {xs : List Int} {m : Nat} {g h : List Int} (a : Nx xs m g h) : ¬ AllM m g := fun k => by
  obtain ⟨e, h1, h2, -, -⟩ := a
  exact h2 (k e h1)
/-- a list of labels that begins with a, ends with b, each one behind the one before -/
structure NxR (xs : List Int) (m : Nat) (l : List (List Int)) (a b : List Int) : Prop where
  pos : 0 < l.length
  hd : l.getD 0 [] = a
  lst : l.getD (l.length - 1) [] = b
  nx : ∀ i, i + 1 < l.length → Nx xs m (l.getD i []) (l.getD (i + 1) [])
theorem getD_appL {l k : List (List Int)} {i : Nat} (h : i < l.length) : (l ++ k).getD i [] = l.getD i [] := by
  simp [List.getD, List.getElem?_append_left h]
theorem getD_appR {l k : List (List Int)} {i : Nat} (h : l.length ≤ i) : (l ++ k).getD i [] = k.getD (i - l.length) [] := by
  simp [List.getD, List.getElem?_append_right h]
theorem NxR.app {xs : List Int} {m : Nat} {l l' : List (List Int)} {a b a' b' : List Int} (h : NxR xs m l a b) (h' : NxR xs m l' a' b') (hn : Nx xs m b a') : NxR xs m (l ++ l') a b' := by
  have p := h.pos
  have p' := h'.pos
  refine ⟨by rw [List.length_append]; omega, by rw [getD_appL p]; exact h.hd, ?_, ?_⟩
  · rw [List.length_append, getD_appR (by omega), ← h'.lst]
    congr 1; omega
  · intro i hi
    rw [List.length_append] at hi
    by_cases e1 : i + 1 < l.length
    · rw [getD_appL (by omega), getD_appL e1]; exact h.nx i e1
    · by_cases e2 : i + 1 = l.length
      · rw [getD_appL (by omega), getD_appR (by omega), show i + 1 - l.length = 0 by omega, h'.hd, show i = l.length - 1 by omega, h.lst]; exact hn
      · rw [getD_appR (by omega), getD_appR (by omega), show i + 1 - l.length = i - l.length + 1 by omega]; exact h'.nx _ (by omega)
theorem take_of_agree {f g : List Int} (hl : f.length ≤ g.length) (h : ∀ j, j < f.length → g.getD j 0 = f.getD j 0) : g.take f.length = f := by
  apply List.ext_getElem
  · rw [List.length_take]; omega
  · intro i h1 h2
    have := h i h2
    rw [getD_get h2, getD_get (by omega)] at this
    rw [List.getElem_take, this]
theorem lbF_run {xs : List Int} {m : Nat} (r : Nat) (f : List Int) (h : ∀ j, j < f.length → 0 ≤ f.getD j 0 ∧ f.getD j 0 ≤ m) :
    ∃ b, NxR xs m (lbF xs m r f) (fillF xs r f) b ∧ b.length = f.length + r ∧ (∀ j, j < f.length → b.getD j 0 = f.getD j 0) ∧ ∀ j, f.length ≤ j → j < f.length + r → b.getD j 0 = m := by
  induction r generalizing f with
  | zero => exact ⟨f, ⟨by simp [lbF], by simp [lbF, fillF], by simp [lbF], fun i hi => by simp [lbF] at hi⟩, rfl, fun _ _ => rfl, fun j h1 h2 => by omega⟩
  | succ r ih =>
    have hL := lstN_rng (xs := xs) (m := m) (fun j hj => (h j hj).2)
    obtain ⟨L, hLe⟩ : ∃ L, lstN xs f = L := ⟨_, rfl⟩
    rw [hLe] at hL
    have key : ∀ t, t ≤ m - L → ∃ b, NxR xs m (preF xs m r f (t + 1)) (fillF xs (r + 1) f) b ∧ b.length = f.length + (r + 1) ∧ (∀ j, j < f.length → b.getD j 0 = f.getD j 0) ∧ b.getD f.length 0 = ((L + t : Nat) : Int) ∧ ∀ j, f.length < j → j < f.length + (r + 1) → b.getD j 0 = m := by
      intro t
      induction t with
      | zero =>
        intro _
        obtain ⟨b, h1, h2, h3, h4⟩ := ih (f ++ [((L : Nat) : Int)]) (rng_snoc h ⟨by omega, by omega⟩)
        rw [List.length_append, List.length_singleton] at h2 h3 h4
        refine ⟨b, ?_, by omega, fun j hj => ?_, ?_, fun j q1 q2 => h4 j (by omega) (by omega)⟩
        · rw [preF_succ, hLe, fillF, hLe]
          simpa [preF] using h1
        · rw [h3 j (by omega), getD_snoc_lt hj]
        · rw [h3 f.length (by omega), getD_snoc_eq]; rfl
      | succ t iht =>
        intro ht
        obtain ⟨b, h1, h2, h3, h4, h5⟩ := iht (by omega)
        obtain ⟨b', k1, k2, k3, k4⟩ := ih (f ++ [((L + (t + 1) : Nat) : Int)]) (rng_snoc h ⟨by omega, by omega⟩)
        rw [List.length_append, List.length_singleton] at k2 k3 k4
        refine ⟨b', ?_, by omega, fun j hj => ?_, ?_, fun j q1 q2 => k4 j (by omega) (by omega)⟩
        · rw [preF_succ, hLe]
          refine h1.app k1 ⟨f.length, by omega, by rw [h4]; omega, fun j q1 q2 => h5 j q1 (by omega), ?_⟩
          rw [h2, h4, take_of_agree (by omega) h3, show f.length + (r + 1) - f.length - 1 = r by omega]
          congr 2
        · rw [k3 j (by omega), getD_snoc_lt hj]
        · rw [k3 f.length (by omega), getD_snoc_eq]
    obtain ⟨b, h1, h2, h3, h4, h5⟩ := key (m - L) (Nat.le_refl _)
    refine ⟨b, ?_, by omega, h3, fun j q1 q2 => ?_⟩
    · rw [preF_full, hLe, show m + 1 - L = m - L + 1 by omega]; exact h1
    · by_cases e : j = f.length
      · subst e; rw [h4]; omega
      · exact h5 j (by omega) q2
/-- all labels: the first ones are zeros, each is behind the one before, only the last ones are m everywhere -/
theorem allF_run (xs : List Int) (m : Nat) : 0 < (allF xs m).length ∧ (allF xs m).getD 0 [] = List.replicate xs.length 0 ∧ (∀ i, i + 1 < (allF xs m).length → Nx xs m ((allF xs m).getD i []) ((allF xs m).getD (i + 1) [])) ∧ AllM m ((allF xs m).getD ((allF xs m).length - 1) []) := by
  obtain ⟨b, h1, h2, h3, h4⟩ := lbF_run (xs := xs) (m := m) xs.length [] (fun j hj => by simp at hj)
  have hz : ∀ r k, fillF xs r (List.replicate k 0) = List.replicate (k + r) 0 := by
    intro r
    induction r with
    | zero => intro k; rfl
    | succ r ih =>
      intro k
      have e : lstN xs (List.replicate k (0 : Int)) = 0 := by
        have := lstN_rng (xs := xs) (f := List.replicate k (0 : Int)) (m := 0) (fun j hj => by simp [List.getD, List.getElem?_replicate] at hj ⊢; split <;> simp)
        omega
      rw [fillF, e, show (List.replicate k (0 : Int) ++ [((0 : Nat) : Int)]) = List.replicate (k + 1) 0 from by rw [List.replicate_succ']; rfl, ih]
      congr 1; omega
  refine ⟨h1.pos, ?_, h1.nx, ?_⟩
  · rw [show allF xs m = lbF xs m xs.length [] from rfl, h1.hd]
    have := hz xs.length 0
    simpa using this
  · rw [show allF xs m = lbF xs m xs.length [] from rfl, h1.lst]
    intro j hj
    exact h4 j (Nat.zero_le _) (by simp at h2 ⊢; omega)
theorem allF_row {xs : List Int} {m i : Nat} (hi : i < (allF xs m).length) : ((allF xs m).getD i []).length = xs.length ∧ ∀ j, j < xs.length → 0 ≤ ((allF xs m).getD i []).getD j 0 ∧ ((allF xs m).getD i []).getD j 0 ≤ m := by
  have hm : (allF xs m).getD i [] ∈ lbF xs m xs.length [] := by
    have e : (allF xs m).getD i [] = (allF xs m)[i] := by simp [List.getD, hi]
    rw [e]; exact List.getElem_mem hi
  obtain ⟨h1, -, h3⟩ := (lbF_mem xs.length [] _).1 hm
  refine ⟨by simpa using h1, fun j hj => ?_⟩
  have := h3 j (Nat.zero_le _) (by simpa using hj)
  have h0 := leN_zero_le xs ((allF xs m).getD i []) j 0 j
  exact ⟨by omega, this.2⟩
end Go.Proofs.Ytgepbekdgocnpab
