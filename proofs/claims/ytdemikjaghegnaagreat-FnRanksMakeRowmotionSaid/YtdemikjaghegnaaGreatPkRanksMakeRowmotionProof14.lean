/- Texts EvG, RkV, Sam, Has, Order, LiIs, one behind the other. -/
import Derived.BigQuiet
import Derived.Deep.AppendLies
import Derived.Test.YtdemikjaghegnaaGreatPkRanksMakeRowmotionProof00
import Derived.Test.YtdemikjaghegnaaGreatPkRanksMakeRowmotionProof01
import Derived.Test.YtdemikjaghegnaaGreatPkRanksMakeRowmotionProof03
import Derived.Test.YtdemikjaghegnaaGreatPkRanksMakeRowmotionProof05
import Derived.Test.YtdemikjaghegnaaGreatPkRanksMakeRowmotionProof13
/- Evacuation, of any involutions in a row of which those that are not neighbours commute. No program is named here. -/
namespace Go.Proofs.YtdemikjaghegnaaGreat
set_option linter.unusedVariables false

/-- involutions T 0, .., T (n - 1) on the numbers of kind D -/
structure Ivs (T : Nat → Nat → Nat) (D : Nat → Prop) (n : Nat) : Prop where
  ins : ∀ i s, i < n → D s → D (T i s)
  inv : ∀ i s, i < n → D s → T i (T i s) = s
  com : ∀ i j s, i < n → j < n → i + 2 ≤ j → D s → T i (T j s) = T j (T i s)
def actT (T : Nat → Nat → Nat) (w : List Nat) (s : Nat) : Nat := w.foldl (fun s i => T i s) s
theorem actT_nil (T : Nat → Nat → Nat) (s : Nat) : actT T [] s = s := rfl
theorem actT_cons (T : Nat → Nat → Nat) (i : Nat) (w : List Nat) (s : Nat) : actT T (i :: w) s = actT T w (T i s) := rfl
theorem actT_append (T : Nat → Nat → Nat) (a b : List Nat) (s : Nat) : actT T (a ++ b) s = actT T b (actT T a s) := by simp [actT, List.foldl_append]
/-- all letters are below n -/
def Lt (n : Nat) (w : List Nat) : Prop := ∀ i ∈ w, i < n
theorem Lt.app {n : Nat} {a b : List Nat} (ha : Lt n a) (hb : Lt n b) : Lt n (a ++ b) := fun i hi => (List.mem_append.1 hi).elim (ha i) (hb i)
theorem Lt.mono {m n : Nat} {a : List Nat} (h : Lt m a) (hmn : m ≤ n) : Lt n a := fun i hi => Nat.lt_of_lt_of_le (h i hi) hmn
theorem Ivs.act {T : Nat → Nat → Nat} {D : Nat → Prop} {n : Nat} (H : Ivs T D n) {w : List Nat} (hw : Lt n w) : ∀ s, D s → D (actT T w s) := by
  induction w with
  | nil => exact fun s hs => hs
  | cons i w ih => exact fun s hs => ih (fun j hj => hw j (List.mem_cons_of_mem _ hj)) _ (H.ins i s (hw i (by simp)) hs)
theorem Ivs.rev {T : Nat → Nat → Nat} {D : Nat → Prop} {n : Nat} (H : Ivs T D n) {w : List Nat} (hw : Lt n w) : ∀ s, D s → actT T (w ++ w.reverse) s = s := by
  induction w with
  | nil => exact fun s hs => rfl
  | cons i w ih =>
    intro s hs
    have hi := hw i (by simp)
    have hw2 : Lt n w := fun j hj => hw j (List.mem_cons_of_mem _ hj)
    rw [List.reverse_cons, ← List.append_assoc, actT_append, List.cons_append]
    show T i (actT T (w ++ w.reverse) (T i s)) = s
    rw [ih hw2 _ (H.ins i s hi hs)]
    exact H.inv i s hi hs
theorem Ivs.com' {T : Nat → Nat → Nat} {D : Nat → Prop} {n : Nat} (H : Ivs T D n) {i j s : Nat} (hi : i < n) (hj : j < n) (hij : i + 2 ≤ j ∨ j + 2 ≤ i) (hs : D s) : T i (T j s) = T j (T i s) :=
  hij.elim (fun h => H.com i j s hi hj h hs) (fun h => (H.com j i s hj hi h hs).symm)
theorem Ivs.one {T : Nat → Nat → Nat} {D : Nat → Prop} {n : Nat} (H : Ivs T D n) {i : Nat} (hi : i < n) {b : List Nat} (hb : Lt n b) (h : ∀ j ∈ b, i + 2 ≤ j ∨ j + 2 ≤ i) : ∀ s, D s → actT T b (T i s) = T i (actT T b s) := by
  induction b with
  | nil => exact fun _ _ => rfl
  | cons j b ih =>
    intro s hs
    have hj := hb j (by simp)
    rw [actT_cons, actT_cons, ← H.com' hi hj (h j (by simp)) hs]
    exact ih (fun k hk => hb k (List.mem_cons_of_mem _ hk)) (fun k hk => h k (List.mem_cons_of_mem _ hk)) _ (H.ins j s hj hs)
theorem Ivs.swap {T : Nat → Nat → Nat} {D : Nat → Prop} {n : Nat} (H : Ivs T D n) {a b : List Nat} (ha : Lt n a) (hb : Lt n b) (h : ∀ i ∈ a, ∀ j ∈ b, i + 2 ≤ j ∨ j + 2 ≤ i) : ∀ s, D s → actT T (a ++ b) s = actT T (b ++ a) s := by
  induction a with
  | nil => intro s hs; simp
  | cons i a ih =>
    intro s hs
    have hi := ha i (by simp)
    have ha2 : Lt n a := fun j hj => ha j (List.mem_cons_of_mem _ hj)
    rw [List.cons_append, actT_cons, ih ha2 (fun k hk => h k (List.mem_cons_of_mem _ hk)) _ (H.ins i s hi hs), actT_append, H.one hi hb (h i (by simp)) s hs, actT_append, actT_cons]
/-- 0, 1, .., k - 1 · m, .., n - 1 · up k, up (k - 1), .., up 1 -/
def upW (k : Nat) : List Nat := List.range k
def geW (m n : Nat) : List Nat := (List.range (n - m)).map fun j => m + j
def gaW : Nat → List Nat
  | 0 => []
  | k + 1 => upW (k + 1) ++ gaW k
theorem upW_lt (k : Nat) : Lt k (upW k) := fun i hi => List.mem_range.1 hi
theorem gaW_lt : ∀ k, Lt k (gaW k)
  | 0 => fun i hi => by cases hi
  | k + 1 => (upW_lt (k + 1)).app ((gaW_lt k).mono (Nat.le_succ k))
theorem geW_mem {m n i : Nat} : i ∈ geW m n ↔ m ≤ i ∧ i < n := by
  unfold geW
  rw [List.mem_map]
  constructor
  · rintro ⟨j, hj, rfl⟩; rw [List.mem_range] at hj; omega
  · rintro ⟨h1, h2⟩; exact ⟨i - m, List.mem_range.2 (by omega), by omega⟩
theorem geW_lt (m n : Nat) : Lt n (geW m n) := fun i hi => (geW_mem.1 hi).2
theorem upW_geW {m n : Nat} (h : m ≤ n) : upW m ++ geW m n = upW n := by
  unfold upW geW
  have e := List.range_add (n := m) (m := n - m)
  rw [show m + (n - m) = n by omega] at e
  exact e.symm
theorem upW_succ (k : Nat) : upW (k + 1) = upW k ++ [k] := List.range_succ
/-- evacuation of k + 1 is that of k, and all backwards -/
theorem Ivs.gaBack {T : Nat → Nat → Nat} {D : Nat → Prop} {n : Nat} (H : Ivs T D n) : ∀ k, k + 1 ≤ n → ∀ s, D s → actT T (gaW (k + 1)) s = actT T (gaW k ++ (upW (k + 1)).reverse) s
  | 0, h, s, hs => rfl
  | k + 1, h, s, hs => by
    have h1 : gaW (k + 2) = upW (k + 1) ++ ([k + 1] ++ gaW (k + 1)) := by
      show upW (k + 2) ++ gaW (k + 1) = _
      rw [upW_succ (k + 1), List.append_assoc]
    have hup := (upW_lt (k + 1)).mono (show k + 1 ≤ n by omega)
    rw [h1, actT_append, actT_append]
    have hs1 := H.act hup s hs
    have hs2 : D (actT T [k + 1] (actT T (upW (k + 1)) s)) := H.act (w := [k + 1]) (fun i hi => by rw [List.mem_singleton] at hi; omega) _ hs1
    rw [H.gaBack k (by omega) _ hs2, ← actT_append, ← List.append_assoc, actT_append]
    rw [H.swap (a := [k + 1]) (b := gaW k) (fun i hi => by rw [List.mem_singleton] at hi; omega) ((gaW_lt k).mono (by omega)) (fun i hi j hj => by rw [List.mem_singleton] at hi; have := gaW_lt k j hj; omega) _ hs1]
    rw [← actT_append, ← actT_append]
    congr 1
    rw [upW_succ (k + 1), List.reverse_append]
    show _ = (upW (k + 1) ++ gaW k) ++ ([k + 1] ++ (upW (k + 1)).reverse)
    simp
/-- evacuation undoes itself -/
theorem Ivs.gaTwice {T : Nat → Nat → Nat} {D : Nat → Prop} {n : Nat} (H : Ivs T D n) : ∀ k, k ≤ n → ∀ s, D s → actT T (gaW k) (actT T (gaW k) s) = s
  | 0, h, s, hs => rfl
  | k + 1, h, s, hs => by
    have hg := (gaW_lt k).mono (show k ≤ n by omega)
    have hup := (upW_lt (k + 1)).mono h
    have hr : Lt n (upW (k + 1)).reverse := fun i hi => hup i (List.mem_reverse.1 hi)
    rw [H.gaBack k h s hs, actT_append]
    show actT T (upW (k + 1) ++ gaW k) _ = s
    rw [actT_append, ← actT_append T _ (upW (k + 1))]
    have e := H.rev (w := (upW (k + 1)).reverse) hr (actT T (gaW k) s) (H.act hg s hs)
    rw [List.reverse_reverse] at e
    rw [e]
    exact H.gaTwice k (by omega) s hs
/-- and turns 'all of them in order' round -/
theorem Ivs.gaTurn {T : Nat → Nat → Nat} {D : Nat → Prop} {n : Nat} (H : Ivs T D n) {k : Nat} (h : k + 1 ≤ n) {s : Nat} (hs : D s) : actT T (upW (k + 1)) (actT T (gaW (k + 1)) (actT T (upW (k + 1)) s)) = actT T (gaW (k + 1)) s := by
  have hg := (gaW_lt k).mono (show k ≤ n by omega)
  have hup := (upW_lt (k + 1)).mono h
  have hr : Lt n (upW (k + 1)).reverse := fun i hi => hup i (List.mem_reverse.1 hi)
  have hs1 := H.act hup s hs
  rw [H.gaBack k h _ hs1, actT_append, ← actT_append T _ (upW (k + 1))]
  have e := H.rev (w := (upW (k + 1)).reverse) hr (actT T (gaW k) (actT T (upW (k + 1)) s)) (H.act hg _ hs1)
  rw [List.reverse_reverse] at e
  rw [e, ← actT_append]
  rfl
/-- m .. n - 1, then m - 1 .. n - 1, .., then 1 .. n - 1 -/
def reW (n : Nat) : Nat → List Nat
  | 0 => []
  | m + 1 => geW (m + 1) n ++ reW n m
theorem reW_lt (n : Nat) : ∀ m, Lt n (reW n m)
  | 0 => fun i hi => by cases hi
  | m + 1 => (geW_lt (m + 1) n).app (reW_lt n m)
def powT (T : Nat → Nat → Nat) (w : List Nat) : Nat → Nat → Nat
  | 0, s => s
  | k + 1, s => powT T w k (actT T w s)
theorem powT_last (T : Nat → Nat → Nat) (w : List Nat) : ∀ k s, powT T w (k + 1) s = actT T w (powT T w k s)
  | 0, s => rfl
  | k + 1, s => by rw [powT, powT_last T w k]; rfl
/-- the dual evacuation: n - 1, .., 0, then n - 1, .., 1, .., then n - 1 -/
def duW (n : Nat) : List Nat := (reW n (n - 1) ++ upW n).reverse
theorem Ivs.gaRe {T : Nat → Nat → Nat} {D : Nat → Prop} {n : Nat} (H : Ivs T D n) : ∀ m, m < n → ∀ s, D s → actT T (gaW m ++ reW n m) s = powT T (upW n) m s
  | 0, h, s, hs => rfl
  | m + 1, h, s, hs => by
    have hup := (upW_lt (m + 1)).mono (show m + 1 ≤ n by omega)
    have hs1 := H.act hup s hs
    have e1 : gaW (m + 1) ++ reW n (m + 1) = upW (m + 1) ++ (gaW m ++ geW (m + 1) n ++ reW n m) := by
      show (upW (m + 1) ++ gaW m) ++ (geW (m + 1) n ++ reW n m) = _
      simp
    rw [e1, actT_append, actT_append, H.swap ((gaW_lt m).mono (by omega)) (geW_lt (m + 1) n) (fun i hi j hj => by have := gaW_lt m i hi; have := (geW_mem.1 hj).1; omega) _ hs1, ← actT_append, List.append_assoc, actT_append,
      ← actT_append T (upW (m + 1)), upW_geW (by omega)]
    exact H.gaRe m (by omega) _ (H.act (upW_lt n) s hs)
theorem Ivs.duTwo {T : Nat → Nat → Nat} {D : Nat → Prop} {n : Nat} (H : Ivs T D n) (h1 : 1 ≤ n) {s : Nat} (hs : D s) (hd : actT T (duW n) (actT T (duW n) s) = s) (hall : ∀ t, D t → actT T (duW n) (actT T (duW n) t) = t) : actT T (duW n) (actT T (gaW n) s) = powT T (upW n) (n + 1) s := by
  obtain ⟨m, rfl⟩ : ∃ m, n = m + 1 := ⟨n - 1, by omega⟩
  have hre : Lt (m + 1) (reW (m + 1) m ++ upW (m + 1)) := (reW_lt (m + 1) m).app (upW_lt (m + 1))
  have hdl : Lt (m + 1) (duW (m + 1)) := fun i hi => hre i (List.mem_reverse.1 hi)
  have hg := H.act (gaW_lt (m + 1)) s hs
  -- the dual is its own reverse
  have e : actT T (duW (m + 1)) (actT T (gaW (m + 1)) s) = actT T (reW (m + 1) m ++ upW (m + 1)) (actT T (gaW (m + 1)) s) := by
    have e1 := H.rev (w := duW (m + 1)) hdl (actT T (gaW (m + 1)) s) hg
    have e2 : (duW (m + 1)).reverse = reW (m + 1) m ++ upW (m + 1) := List.reverse_reverse _
    rw [e2, actT_append] at e1
    have hd2 := H.act hdl _ hg
    have e3 := hall _ hg
    have e4 : ∀ t, D t → actT T (reW (m + 1) m ++ upW (m + 1)) (actT T (duW (m + 1)) t) = t := fun t ht => by
      have := H.rev (w := duW (m + 1)) hdl t ht
      rwa [e2, actT_append] at this
    have e5 := e4 _ hd2
    rw [e3] at e5
    exact e5.symm
  rw [e, actT_append, ← actT_append T (gaW (m + 1))]
  have e6 : gaW (m + 1) ++ reW (m + 1) m = upW (m + 1) ++ (gaW m ++ reW (m + 1) m) := by
    show (upW (m + 1) ++ gaW m) ++ _ = _
    simp
  rw [e6, actT_append, H.gaRe m (by omega) _ (H.act (upW_lt (m + 1)) s hs), ← powT_last]
  rfl
/-- the involutions in the other order -/
theorem Ivs.flip {T : Nat → Nat → Nat} {D : Nat → Prop} {n : Nat} (H : Ivs T D n) : Ivs (fun i => T (n - 1 - i)) D n where
  ins i s hi hs := H.ins _ s (by omega) hs
  inv i s hi hs := H.inv _ s (by omega) hs
  com i j s hi hj hij hs := (H.com (n - 1 - j) (n - 1 - i) s (by omega) (by omega) (by omega) hs).symm
theorem actT_flip (T : Nat → Nat → Nat) (n : Nat) : ∀ (w : List Nat) (s : Nat), actT (fun i => T (n - 1 - i)) w s = actT T (w.map fun i => n - 1 - i) s
  | [], s => rfl
  | i :: w, s => by rw [actT_cons, List.map_cons, actT_cons]; exact actT_flip T n w _
theorem upW_flip (n k : Nat) (hk : k ≤ n) : (upW k).map (fun i => n - 1 - i) = (geW (n - k) n).reverse := by
  apply List.ext_getElem
  · simp [upW, geW]; omega
  · intro i h1 h2
    rw [List.getElem_reverse]
    simp only [upW, geW, List.getElem_map, List.getElem_range, List.length_map, List.length_range]
    have : i < k := by simpa [upW] using h1
    omega
def reX (n : Nat) : Nat → List Nat
  | 0 => []
  | k + 1 => reX n k ++ geW (n - (k + 1)) n
theorem gaW_flip (n : Nat) : ∀ k, k ≤ n → (gaW k).map (fun i => n - 1 - i) = (reX n k).reverse
  | 0, _ => rfl
  | k + 1, h => by
    show (upW (k + 1) ++ gaW k).map _ = (reX n k ++ geW (n - (k + 1)) n).reverse
    rw [List.map_append, upW_flip n (k + 1) h, gaW_flip n k (by omega), List.reverse_append]
theorem reX_reW (n : Nat) : ∀ k, k + 1 ≤ n → reX n k ++ reW n (n - 1 - k) = reW n (n - 1)
  | 0, _ => rfl
  | k + 1, h => by
    have ih := reX_reW n k (by omega)
    have e : reW n (n - 1 - k) = geW (n - (k + 1)) n ++ reW n (n - 1 - (k + 1)) := by
      obtain ⟨m, hm⟩ : ∃ m, n - 1 - k = m + 1 := ⟨n - 1 - k - 1, by omega⟩
      rw [hm, show n - (k + 1) = m + 1 by omega, show n - 1 - (k + 1) = m by omega]; rfl
    rw [e, ← List.append_assoc] at ih
    exact ih
theorem duW_flip {n : Nat} (h : 1 ≤ n) : (gaW n).map (fun i => n - 1 - i) = duW n := by
  rw [gaW_flip n n (Nat.le_refl _)]
  unfold duW
  congr 1
  obtain ⟨m, rfl⟩ : ∃ m, n = m + 1 := ⟨n - 1, by omega⟩
  have e := reX_reW (m + 1) m (by omega)
  rw [show m + 1 - 1 - m = 0 by omega] at e
  show reX (m + 1) m ++ geW (m + 1 - (m + 1)) (m + 1) = _
  rw [← e, show m + 1 - (m + 1) = 0 by omega]
  have e2 : geW 0 (m + 1) = upW (m + 1) := by simp [geW, upW]
  rw [e2]
  simp [reW]
theorem Ivs.duTwice {T : Nat → Nat → Nat} {D : Nat → Prop} {n : Nat} (H : Ivs T D n) (h : 1 ≤ n) {s : Nat} (hs : D s) : actT T (duW n) (actT T (duW n) s) = s := by
  have e := H.flip.gaTwice n (Nat.le_refl _) s hs
  rw [actT_flip, actT_flip, duW_flip h] at e
  exact e
theorem duW_lt {n : Nat} : Lt n (duW n) := fun i hi => ((reW_lt n (n - 1)).app (upW_lt n)) i (List.mem_reverse.1 hi)
theorem Ivs.duTurn {T : Nat → Nat → Nat} {D : Nat → Prop} {n : Nat} (H : Ivs T D n) (h : 1 ≤ n) {s : Nat} (hs : D s) : actT T (upW n) (actT T (duW n) (actT T (upW n) s)) = actT T (duW n) s := by
  obtain ⟨m, rfl⟩ : ∃ m, n = m + 1 := ⟨n - 1, by omega⟩
  have hup := upW_lt (m + 1)
  have hr : Lt (m + 1) (upW (m + 1)).reverse := fun i hi => hup i (List.mem_reverse.1 hi)
  have hs1 := H.act hup s hs
  have e := H.flip.gaTurn (k := m) (Nat.le_refl _) hs1
  rw [actT_flip, actT_flip, actT_flip, actT_flip, duW_flip h, upW_flip (m + 1) (m + 1) (Nat.le_refl _), show m + 1 - (m + 1) = 0 by omega] at e
  have e2 : geW 0 (m + 1) = upW (m + 1) := by simp [geW, upW]
  rw [e2] at e
  have e3 := H.rev hup s hs
  rw [actT_append] at e3
  rw [e3] at e
  have hd := H.act duW_lt s hs
  have e4 := H.rev hr _ hd
  rw [List.reverse_reverse, actT_append, e] at e4
  exact e4
theorem Ivs.gaDu {T : Nat → Nat → Nat} {D : Nat → Prop} {n : Nat} (H : Ivs T D n) (h1 : 1 ≤ n) {s : Nat} (hs : D s) : actT T (duW n) (actT T (gaW n) s) = powT T (upW n) (n + 1) s :=
  H.duTwo h1 hs (H.duTwice h1 hs) fun t ht => H.duTwice h1 ht
end Go.Proofs.YtdemikjaghegnaaGreat

/- Rowvacuation and its dual: they undo themselves, turn rowmotion round, and together are rowmotions. -/
namespace Go.Proofs.YtdemikjaghegnaaGreat
open Go.RowKit Go.WideShapes Go.ChangeShapes
set_option linter.unusedVariables false

theorem togW_rev {xs : List Int} : ∀ (L : List Int) (s : Nat), holdsIdeal xs s = true → togW xs s (L ++ L.reverse) = s
  | [], s, _ => rfl
  | x :: L, s, hs => by
    rw [List.reverse_cons, ← List.append_assoc, togW_app, List.cons_append]
    show tog xs (togW xs (tog xs s x.toNat) (L ++ L.reverse)) x.toNat = s
    rw [togW_rev L _ (tog_ideal hs)]
    exact tog_tog hs
theorem togW_self {xs : List Int} (hg : good xs = true) {L : List Int} (hin : inW xs.length L = true) (hap : ∀ d ∈ L, ∀ e ∈ L, Apart xs d.toNat e.toNat) {s : Nat} (hs : holdsIdeal xs s = true) : togW xs (togW xs s L) L = s := by
  rw [togW_perm hg (List.reverse_perm L).symm hin hap _ (togW_ideal hs), ← togW_app]
  exact togW_rev L s hs
theorem rank_self {xs : List Int} (hg : good xs = true) (hr : rankedB xs = true) {i : Nat} (hi : i < rkN xs) {s : Nat} (hs : holdsIdeal xs s = true) : wK xs [(i : Int)] (wK xs [(i : Int)] s) = s := by
  have hin := inW_rkW hg (inW_one hi)
  refine togW_self hg hin (fun d hd e he => ?_) hs
  obtain ⟨f, rfl, h1, _, h3⟩ := (rkW_mem (inW_one hi) d).1 hd
  obtain ⟨g, rfl, h4, _, h6⟩ := (rkW_mem (inW_one hi) e).1 he
  rw [List.mem_singleton] at h3 h6
  rw [Int.toNat_natCast, Int.toNat_natCast]
  exact apart_far hg hr h1 h4 (by omega) (by omega)
/-- the ranks, from above -/
def rT (xs : List Int) (h t s : Nat) : Nat := wK xs [((h - t : Nat) : Int)] s
theorem rIvs {xs : List Int} (hg : good xs = true) (hr : rankedB xs = true) {h : Nat} (hh : rkN xs = h + 1) : Ivs (rT xs h) (fun s => holdsIdeal xs s = true) (h + 1) where
  ins i s hi hs := wK_ideal hs
  inv i s hi hs := rank_self hg hr (by omega) hs
  com i j s hi hj hij hs := by
    unfold rT
    rw [← wK_append, ← wK_append]
    refine wK_swap hg hr (inW_one (by omega)) (inW_one (by omega)) (fun x hx y hy => ?_) hs
    rw [List.mem_singleton] at hx hy
    omega
theorem actT_wK (xs : List Int) (h : Nat) : ∀ (w : List Nat) (s : Nat), actT (rT xs h) w s = wK xs (w.map fun t => ((h - t : Nat) : Int)) s
  | [], s => rfl
  | t :: w, s => by
    rw [actT_cons, actT_wK xs h w, List.map_cons, show ((h - t : Nat) : Int) :: (w.map fun t => ((h - t : Nat) : Int)) = [((h - t : Nat) : Int)] ++ (w.map fun t => ((h - t : Nat) : Int)) from rfl, wK_append]
    rfl
theorem upW_map (h m : Nat) (hm : m ≤ h + 1) : (upW m).map (fun t => ((h - t : Nat) : Int)) = fsL h (h + 1 - m) := by
  unfold upW fsL
  rw [show h + 1 - (h + 1 - m) = m by omega]
theorem gaW_map (h : Nat) : ∀ d, d ≤ h + 1 → swL (fVac h) (h + 1 - d) ++ (gaW d).map (fun t => ((h - t : Nat) : Int)) = wVac h
  | 0, _ => by show swL (fVac h) (h + 1) ++ [] = _; rw [List.append_nil]; rfl
  | d + 1, hd => by
    have ih := gaW_map h d (by omega)
    have e1 : swL (fVac h) (h + 1 - d) = swL (fVac h) (h + 1 - (d + 1)) ++ fsL h (h + 1 - (d + 1)) := by
      rw [show h + 1 - d = (h + 1 - (d + 1)) + 1 by omega, swL_succ]; rfl
    rw [e1, List.append_assoc] at ih
    show _ ++ (upW (d + 1) ++ gaW d).map _ = _
    rw [List.map_append, upW_map h (d + 1) hd]
    exact ih
theorem gaW_vac (h : Nat) : (gaW (h + 1)).map (fun t => ((h - t : Nat) : Int)) = wVac h := by
  have := gaW_map h (h + 1) (Nat.le_refl _)
  rwa [Nat.sub_self] at this
theorem gaW_cast (h : Nat) : ∀ d, d ≤ h + 1 → swL (fDual h) (h + 1 - d) ++ (gaW d).map (fun t : Nat => (t : Int)) = wDual h
  | 0, _ => by show swL (fDual h) (h + 1) ++ [] = _; rw [List.append_nil]; rfl
  | d + 1, hd => by
    have ih := gaW_cast h d (by omega)
    have e0 : (upW (d + 1)).map (fun t : Nat => (t : Int)) = fDual h (h + 1 - (d + 1)) := by
      unfold upW fDual rnL
      rw [show h - (h + 1 - (d + 1)) + 1 - 0 = d + 1 by omega]
      congr 1
      funext j
      simp
    have e1 : swL (fDual h) (h + 1 - d) = swL (fDual h) (h + 1 - (d + 1)) ++ fDual h (h + 1 - (d + 1)) := by
      rw [show h + 1 - d = (h + 1 - (d + 1)) + 1 by omega, swL_succ]
    rw [e1, List.append_assoc] at ih
    show _ ++ (upW (d + 1) ++ gaW d).map _ = _
    rw [List.map_append, e0]
    exact ih
theorem duW_dual (h : Nat) : (duW (h + 1)).map (fun t => ((h - t : Nat) : Int)) = wDual h := by
  rw [← duW_flip (by omega), List.map_map]
  have e := gaW_cast h (h + 1) (Nat.le_refl _)
  rw [Nat.sub_self] at e
  rw [← e]
  show _ = (gaW (h + 1)).map (fun t : Nat => (t : Int))
  apply List.map_congr_left
  intro t ht
  have := gaW_lt (h + 1) t ht
  simp only [Function.comp]
  omega
theorem up_row {xs : List Int} (hg : good xs = true) {h : Nat} (hh : rkN xs = h + 1) {s : Nat} (hs : s < 2 ^ xs.length) (hi : holdsIdeal xs s = true) : actT (rT xs h) (upW (h + 1)) s = rowmo xs s := by
  rw [actT_wK, upW_map h (h + 1) (Nat.le_refl _), Nat.sub_self]
  have := rank_row hg hh hs hi
  rw [wRow_eq] at this
  exact this
/-- rowvacuation, its dual -/
def vac (xs : List Int) (h s : Nat) : Nat := togW xs s (rkW (rankL xs) (wVac h))
def duv (xs : List Int) (h s : Nat) : Nat := togW xs s (rkW (rankL xs) (wDual h))
theorem vac_act (xs : List Int) (h s : Nat) : vac xs h s = actT (rT xs h) (gaW (h + 1)) s := by rw [actT_wK, gaW_vac]; rfl
theorem duv_act (xs : List Int) (h s : Nat) : duv xs h s = actT (rT xs h) (duW (h + 1)) s := by rw [actT_wK, duW_dual]; rfl
theorem vac_lt {xs : List Int} (hg : good xs = true) {h : Nat} (hh : rkN xs = h + 1) {s : Nat} (hs : s < 2 ^ xs.length) : vac xs h s < 2 ^ xs.length := togW_lt hs (inW_rkW hg (inW_wVac (by omega)))
theorem duv_lt {xs : List Int} (hg : good xs = true) {h : Nat} (hh : rkN xs = h + 1) {s : Nat} (hs : s < 2 ^ xs.length) : duv xs h s < 2 ^ xs.length := togW_lt hs (inW_rkW hg (inW_wDual (by omega)))
theorem vac_ideal {xs : List Int} {h s : Nat} (hi : holdsIdeal xs s = true) : holdsIdeal xs (vac xs h s) = true := togW_ideal hi
theorem duv_ideal {xs : List Int} {h s : Nat} (hi : holdsIdeal xs s = true) : holdsIdeal xs (duv xs h s) = true := togW_ideal hi
theorem vac_twice {xs : List Int} (hg : good xs = true) (hr : rankedB xs = true) {h : Nat} (hh : rkN xs = h + 1) {s : Nat} (hi : holdsIdeal xs s = true) : vac xs h (vac xs h s) = s := by
  rw [vac_act, vac_act]
  exact (rIvs hg hr hh).gaTwice (h + 1) (Nat.le_refl _) s hi
theorem duv_twice {xs : List Int} (hg : good xs = true) (hr : rankedB xs = true) {h : Nat} (hh : rkN xs = h + 1) {s : Nat} (hi : holdsIdeal xs s = true) : duv xs h (duv xs h s) = s := by
  rw [duv_act, duv_act]
  exact (rIvs hg hr hh).duTwice (by omega) hi
theorem vac_turn {xs : List Int} (hg : good xs = true) (hr : rankedB xs = true) {h : Nat} (hh : rkN xs = h + 1) {s : Nat} (hs : s < 2 ^ xs.length) (hi : holdsIdeal xs s = true) : rowmo xs (vac xs h (rowmo xs s)) = vac xs h s := by
  have hr1 := rowmo_lt hg s
  have hr2 := rowmo_ideal hg s
  rw [← up_row hg hh (vac_lt hg hh hr1) (vac_ideal hr2), vac_act, vac_act, ← up_row hg hh hs hi]
  exact (rIvs hg hr hh).gaTurn (Nat.le_refl _) hi
theorem duv_turn {xs : List Int} (hg : good xs = true) (hr : rankedB xs = true) {h : Nat} (hh : rkN xs = h + 1) {s : Nat} (hs : s < 2 ^ xs.length) (hi : holdsIdeal xs s = true) : rowmo xs (duv xs h (rowmo xs s)) = duv xs h s := by
  have hr1 := rowmo_lt hg s
  have hr2 := rowmo_ideal hg s
  rw [← up_row hg hh (duv_lt hg hh hr1) (duv_ideal hr2), duv_act, duv_act, ← up_row hg hh hs hi]
  exact (rIvs hg hr hh).duTurn (by omega) hi
theorem pow_row {xs : List Int} (hg : good xs = true) {h : Nat} (hh : rkN xs = h + 1) {s : Nat} (hs : s < 2 ^ xs.length) (hi : holdsIdeal xs s = true) : ∀ k, powT (rT xs h) (upW (h + 1)) k s = iter (rowmo xs) k s ∧ iter (rowmo xs) k s < 2 ^ xs.length ∧ holdsIdeal xs (iter (rowmo xs) k s) = true
  | 0 => ⟨rfl, hs, hi⟩
  | k + 1 => by
    obtain ⟨h1, h2, h3⟩ := pow_row hg hh hs hi k
    refine ⟨?_, rowmo_lt hg _, rowmo_ideal hg _⟩
    rw [powT_last, h1, up_row hg hh h2 h3]
    rfl
theorem both_rows {xs : List Int} (hg : good xs = true) (hr : rankedB xs = true) {h : Nat} (hh : rkN xs = h + 1) {s : Nat} (hs : s < 2 ^ xs.length) (hi : holdsIdeal xs s = true) : duv xs h (vac xs h s) = iter (rowmo xs) (h + 2) s := by
  rw [duv_act, vac_act, (rIvs hg hr hh).gaDu (by omega) hi, (pow_row hg hh hs hi (h + 2)).1]
end Go.Proofs.YtdemikjaghegnaaGreat

/- Two lists alike: the model's l1Same, slices.Equal. -/
namespace Go.Proofs.YtdemikjaghegnaaGreat
open Go.RowKit Go.WideShapes Go.ChangeShapes
set_option linter.unusedVariables false

def sameL (xs ys : List Int) : Bool := decide (xs = ys)
theorem sameL_len {xs ys : List Int} (h : xs.length ≠ ys.length) : sameL xs ys = false := by
  unfold sameL; rw [decide_eq_false_iff_not]; rintro rfl; exact h rfl
theorem sameL_at {xs ys : List Int} {j : Nat} (h : xs.getD j 0 ≠ ys.getD j 0) : sameL xs ys = false := by
  unfold sameL; rw [decide_eq_false_iff_not]; rintro rfl; exact h rfl
theorem sameL_all {xs ys : List Int} (hl : xs.length = ys.length) (h : ∀ j, j < xs.length → xs.getD j 0 = ys.getD j 0) : sameL xs ys = true := by
  unfold sameL; rw [decide_eq_true_iff]
  refine List.ext_getElem hl fun j h1 h2 => ?_
  have := h j h1
  simpa [List.getD, h1, h2] using this
end Go.Proofs.YtdemikjaghegnaaGreat

/- Is a number in a list (the model's l1Has); an append that leaves another list of the call's own. -/
namespace Go.Proofs.YtdemikjaghegnaaGreat
open Go.RowKit Go.WideShapes Go.ChangeShapes
set_option linter.unusedVariables false

def hasL (xs : List Int) (n : Int) : Bool := decide (n ∈ xs)
theorem hasL_snoc (l : List Int) (y n : Int) : hasL (l ++ [y]) n = (hasL l n || n == y) := by
  unfold hasL
  rw [Bool.eq_iff_iff]
  simp
theorem Ints.takeK {w : World} {A : Option Addr} {n c : Nat} {l : List Int} (h : Ints w (.slice A n c) l) {k : Nat} (hk : k ≤ l.length) (c' : Nat) : Ints w (.slice A k c') (l.take k) := by
  obtain ⟨A', c1, e, hA⟩ := h
  injection e with e1 e2 e3
  subst e1
  refine ⟨A, c', by rw [List.length_take, Nat.min_eq_left hk], fun hne => ?_⟩
  obtain ⟨b, o, rfl, hb, hc⟩ := hA (by rintro rfl; simp at hne)
  refine ⟨b, o, rfl, hb, fun j hj => ?_⟩
  rw [List.length_take] at hj
  rw [hc j (by omega)]
  simp [List.getD, List.getElem?_take, show j < k by omega]
theorem Ints.dropK {w : World} {b o n c : Nat} {l : List Int} (h : Ints w (.slice (some ⟨b, o, none⟩) n c) l) {k : Nat} (hk : k ≤ l.length) (m c' : Nat) (hm : m = l.length - k) : Ints w (.slice (some ⟨b, o + k, none⟩) m c') (l.drop k) := by
  obtain ⟨A', c1, e, hA⟩ := h
  injection e with e1 e2 e3
  subst e1
  refine ⟨some ⟨b, o + k, none⟩, c', by rw [List.length_drop, hm], fun hne => ?_⟩
  obtain ⟨b', o', e, hb, hc⟩ := hA (by rintro rfl; simp at hne)
  injection e with e
  injection e with e4 e5
  subst e4; subst e5
  refine ⟨b, o + k, rfl, hb, fun j hj => ?_⟩
  rw [List.length_drop] at hj
  rw [Nat.add_assoc, hc (k + j) (by omega)]
  simp [List.getD]
theorem OwnI.capH {e : TypeId} {w : World} {B : Nat} {A : Option Addr} {n c : Nat} {xs : List Int} (h : OwnI e w B (.slice A n c) xs) : xs.length ≤ c := by
  rcases h.2 with ⟨h1, h2⟩ | ⟨g, cap, cur, h1, _, _, h2, _⟩
  · simp at h2; simp [h2]
  · injection h1 with _ _ h3; omega
theorem OwnI.nilOr {e : TypeId} {w : World} {B : Nat} {A : Option Addr} {n c : Nat} {xs : List Int} (h : OwnI e w B (.slice A n c) xs) : (A = none ∧ c = 0 ∧ xs = []) ∨ ∃ g, A = some ⟨g, 0, none⟩ ∧ B ≤ g ∧ g < w.heap.size ∧ ∀ j, j < xs.length → w.cell? ⟨g, j, none⟩ = some (.int .i64 (xs.getD j 0)) := by
  have h' : w.ownsRow B e 1 (.slice A n c) xs.length (xs.map (Value.int .i64)) := h
  rcases h.2 with ⟨h1, h2⟩ | ⟨g, cap, cur, h1, hB, hh, _⟩
  · injection h1 with e1 e2 e3
    exact .inl ⟨e1, e3, by simpa using h2⟩
  · injection h1 with e1 e2 e3
    subst e1; subst e2; subst e3
    refine .inr ⟨g, rfl, hB, (Array.getElem?_eq_some_iff.1 hh).1, fun j hj => ?_⟩
    rw [h'.cellAt j (by omega)]
    simp [List.getD, hj]
theorem Ints.dropK0 {w : World} {b n c : Nat} {l : List Int} (h : Ints w (.slice (some ⟨b, 0, none⟩) n c) l) {k : Nat} (hk : k ≤ l.length) (m c' : Nat) (hm : m = l.length - k) : Ints w (.slice (some ⟨b, k, none⟩) m c') (l.drop k) := by
  have := h.dropK hk m c' hm
  rwa [Nat.zero_add] at this
theorem Ints.noneL (w : World) (A : Option Addr) (n c : Nat) (h : n = 0) : Ints w (.slice A n c) [] := by subst h; exact ⟨A, c, rfl, fun h => absurd rfl h⟩
theorem Ints.none_ (w : World) (A : Option Addr) (c : Nat) : Ints w (.slice A 0 c) [] := ⟨A, c, rfl, fun h => absurd rfl h⟩
/-- 'out = append(out, y)', beside another list of the call's own -/
theorem wpList_append_int2 {P : Program} {w W : World} {ops : Array Oper} {rest : List Oper} {o : Oper} {a : Act} {Q : Exit → Act → World → Prop} (hgd : o.guard = none) (s x : Operand) (t e : TypeId)
    (ho : o.op = .call { callee := .builtin .append, args := #[s, x], argTypes := #[t, t] }) (ht : P.underlying t = some (.slice e)) (hinfo : (P.info? e).map (fun i => (i.zero, i.size, i.bytes)) = some (some (.int .i64 0), 1, 8))
    (B : Nat) (v : Value) (xs : List Int) (y : Int) (hs : a.eval s = v) (hown : OwnI e w B v xs) (hW : W = w.alloc (.cells #[.int .i64 y] e)) (hx : a.eval x = .slice (some ⟨w.heap.size, 0, none⟩) 1 1) (hlen : xs.length < 1048576) (hB : B ≤ w.heap.size)
    (h : ∀ v' w', OwnI e w' B v' (xs ++ [y]) → Below B w w' → (∀ z zs, OwnI e w B z zs → (z.ownBlock = none ∨ z.ownBlock ≠ v.ownBlock) → OwnI e w' B z zs ∧ (z.ownBlock = none ∨ z.ownBlock ≠ v'.ownBlock)) → wpList P ops Q rest (a.put o.dst v') w') : wpList P ops Q (o :: rest) a W := by
  subst hW
  obtain ⟨i0, hi, hz0, hz1, hz2⟩ := info_parts hinfo
  refine wpList_append_lies _ hgd s x t ho B e i0 (.int .i64 0) 1 8 ht hi hz0 hz1 hz2 rfl (by decide) v xs.length (xs.map (Value.int .i64)) hs (World.ownsRow.alloc hown _) ⟨w.heap.size, 0, none⟩ 1 1 [.int .i64 y] hx rfl ?_ ?_ (by decide) ?_ ?_ ?_ _ rfl ?_
  · intro j u hj
    match j, hj with
    | 0, hj =>
      simp only [List.getElem?_cons_zero, Option.some.injEq] at hj
      subst hj
      exact (Blk.new w e #[.int .i64 y]).cell 0
    | j + 1, hj => simp at hj
  · intro u hu
    simp only [List.mem_singleton] at hu
    subst hu; rfl
  · unfold maxLen; omega
  · omega
  · simp; omega
  · intro g cap w' h6 h7 h8 h9
    have hb : Below B w (w.alloc (.cells #[.int .i64 y] e)) := (Below.refl _ _).alloc hB _
    have hB2 : Below B w w' := hb.grown h7 (by simp; omega) fun k hk => (World.ownsRow.lt hown k hk).1
    refine h _ w' (by unfold OwnI; simpa using h6) hB2 fun z zs hz hzv => ⟨(World.ownsRow.alloc hz _).kept h7 hzv, ?_⟩
    rcases hzv with hzn | hzn
    · exact .inl hzn
    · rcases hq : z.ownBlock with _ | q
      · exact .inl rfl
      · refine .inr fun e2 => ?_
        have hql := (World.ownsRow.lt hz q hq).2
        simp only [Value.ownBlock, Option.some.injEq] at e2
        subst e2
        rcases h8 with h8 | h8
        · exact hzn (by rw [hq, h8])
        · simp at h8; omega
end Go.Proofs.YtdemikjaghegnaaGreat

/- Orders: IsOrder. -/
namespace Go.Proofs.YtdemikjaghegnaaGreat
open Go.RowKit Go.WideShapes Go.ChangeShapes
set_option linter.unusedVariables false

def ordP (xs : List Int) (m : Nat) (y : Int) : Bool := (decide (0 ≤ y) && decide (y < xs.length)) && (!m.testBit y.toNat && (sub (row xs y.toNat) m == 0))
def ordSt (xs ys : List Int) : Nat → Option Nat
  | 0 => some 0
  | k + 1 => (ordSt xs ys k).bind fun m => if ordP xs m (ys.getD k 0) then some (m ||| 2 ^ (ys.getD k 0).toNat) else none
def orderB (xs ys : List Int) : Bool := decide (ys.length = xs.length) && (ordSt xs ys ys.length).isSome
theorem ordSt_yes {xs ys : List Int} {k m : Nat} (h : ordSt xs ys k = some m) (hp : ordP xs m (ys.getD k 0) = true) : ordSt xs ys (k + 1) = some (m ||| 2 ^ (ys.getD k 0).toNat) := by
  simp only [ordSt, h, Option.bind_some, hp, if_true]
theorem ordSt_no {xs ys : List Int} {k m : Nat} (h : ordSt xs ys k = some m) (hp : ordP xs m (ys.getD k 0) = false) : ∀ j, k < j → ordSt xs ys j = none := by
  intro j hj
  induction j with
  | zero => omega
  | succ j ih =>
    by_cases e : k = j
    · subst e; simp only [ordSt, h, Option.bind_some, hp]; rfl
    · simp only [ordSt, ih (by omega)]; rfl
theorem ordSt_lt {xs ys : List Int} (k : Nat) : ∀ m, ordSt xs ys k = some m → m < 2 ^ xs.length ∧ ∀ j, j < k → 0 ≤ ys.getD j 0 ∧ ys.getD j 0 < xs.length := by
  induction k with
  | zero => intro m h; simp only [ordSt, Option.some.injEq] at h; subst h; exact ⟨Nat.two_pow_pos _, fun j hj => by omega⟩
  | succ k ih =>
    intro m h
    cases hq : ordSt xs ys k with
    | none => simp only [ordSt, hq] at h; cases h
    | some q =>
      obtain ⟨h1, h2⟩ := ih q hq
      cases hp : ordP xs q (ys.getD k 0)
      · rw [ordSt_no hq hp (k + 1) (by omega)] at h; cases h
      · rw [ordSt_yes hq hp] at h
        simp only [Option.some.injEq] at h
        subst h
        simp only [ordP, Bool.and_eq_true, decide_eq_true_eq] at hp
        refine ⟨Nat.or_lt_two_pow h1 (pow_lt_len (by omega)), fun j hj => ?_⟩
        by_cases e : j = k
        · subst e; exact hp.1
        · exact h2 j (by omega)
theorem orderB_len {xs ys : List Int} (h : ¬ ys.length = xs.length) : orderB xs ys = false := by simp [orderB, h]
theorem orderB_no {xs ys : List Int} {k m : Nat} (h : ordSt xs ys k = some m) (hk : k < ys.length) (hp : ordP xs m (ys.getD k 0) = false) : orderB xs ys = false := by
  simp [orderB, ordSt_no h hp ys.length hk]
theorem orderB_yes {xs ys : List Int} {m : Nat} (hl : ys.length = xs.length) (h : ordSt xs ys ys.length = some m) : orderB xs ys = true := by
  rw [orderB, h, hl]; simp
theorem orderB_in {xs ys : List Int} (h : inW xs.length ys = false) : orderB xs ys = false := by
  cases hc : orderB xs ys
  · rfl
  · simp only [orderB, Bool.and_eq_true, decide_eq_true_eq] at hc
    obtain ⟨m, hm⟩ := Option.isSome_iff_exists.1 hc.2
    rw [inW_of (ordSt_lt _ m hm).2] at h; cases h
theorem orderB_word {xs ys : List Int} (h : orderB xs ys = true) : ys.length = xs.length ∧ inW xs.length ys = true := by
  simp only [orderB, Bool.and_eq_true, decide_eq_true_eq] at h
  obtain ⟨m, hm⟩ := Option.isSome_iff_exists.1 h.2
  exact ⟨h.1, inW_of (ordSt_lt _ m hm).2⟩
theorem ordP_range {xs : List Int} {m : Nat} {y : Int} (h : (decide (0 ≤ y) && decide (y < xs.length)) = false) : ordP xs m y = false := by simp only [ordP, h]; rfl
theorem ordP_bit {xs : List Int} {m e : Nat} (h : m.testBit e = true) : ordP xs m (e : Int) = false := by simp [ordP, h]
theorem ordP_row {xs : List Int} {m e z : Nat} (hz : row xs e = z) (h : sub z m ≠ 0) : ordP xs m (e : Int) = false := by
  simp [ordP, hz, h]
theorem ordP_yes {xs : List Int} {m e z : Nat} (he : e < xs.length) (hb : m.testBit e = false) (hz : row xs e = z) (h : sub z m = 0) : ordP xs m (e : Int) = true := by
  simp [ordP, hz, h, hb]; omega

def okOrder (xs ys : List Int) : Bool := good xs && orderB xs ys
theorem okOrder_no {xs ys : List Int} (h : good xs = false) : okOrder xs ys = false := by simp [okOrder, h]
theorem okOrder_yes {xs ys : List Int} (h : good xs = true) : okOrder xs ys = orderB xs ys := by simp [okOrder, h]
end Go.Proofs.YtdemikjaghegnaaGreat

/- Is a list a linear extension, in the model. -/
namespace Go.Proofs.YtdemikjaghegnaaGreat
open Go.RowKit Go.WideShapes Go.ChangeShapes
set_option linter.unusedVariables false

theorem ret_vbL {u : Value} {a b : Bool} (h : a = b) : Ending.returned (.tuple #[u, .bool a]) = .returned (.tuple #[u, .bool b]) := by rw [h]
theorem l1OwnL_any (v : Value) (xs : List Int) (w : World) (hv : Ints w v xs) (hl : xs.length ≤ 1048576) :
    Calls Tryz.prog 122 #[v] w fun (r : Ending) w' => ∃ u, r = Ending.returned u ∧ OwnI 3 w' w.heap.size u xs ∧ Below w.heap.size w w' := by
  have HV := hid hv
  clear hv
  go_enter Tryz.func122, Tryz.ntmps122
  go_wp2_with (at_builtin; refine wpList_append_ints rfl _ _ 24 3 rfl Tryz.underlying24 Tryz.info3 w.heap.size _ [] rfl (OwnI.empty 3 w) _ xs rfl (HV.out.alloc _) (by simpa using hl) (by simp) ?_; rintro u w1 ho hb)
  go_ret
  exact ⟨_, rfl, by simpa using ho, (below_alloc (Below.refl _ w) _).trans hb⟩
theorem l1All_Q (v : Value) (ys : List Int) (n : Nat) (w : World) (hv : Ints w v ys) (hl : ys.length ≤ 1048576) (hn : n ≤ 1048576) :
    Calls Tryz.prog 67 #[v, .int .i64 0, .int .i64 ((n : Int) - 1)] w fun r w' => r = .returned (.bool (inW n ys)) ∧ Below w.heap.size w w' := l1All_any v ys n w hv hl hn
end Go.Proofs.YtdemikjaghegnaaGreat
