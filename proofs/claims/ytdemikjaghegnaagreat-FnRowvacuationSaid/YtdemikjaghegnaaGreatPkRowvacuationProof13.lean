/- Texts RkC, EvG, RkV, one behind the other. -/
import Derived.Test.YtdemikjaghegnaaGreatPkRowvacuationProof00
import Derived.Test.YtdemikjaghegnaaGreatPkRowvacuationProof12
/- Motions that are alike have orbits of the same lengths; gyration is like rowmotion. -/
namespace Go.Proofs.YtdemikjaghegnaaGreat
open Go.RowKit Go.WideShapes Go.ChangeShapes
set_option linter.unusedVariables false

/-! ### words of ranks as motions -/
theorem apart_far {xs : List Int} (hg : good xs = true) (hr : rankedB xs = true) {d e : Nat} (hd : d < xs.length) (he : e < xs.length)
    (h1 : ((heightsL xs).getD d 0).toNat ≠ ((heightsL xs).getD e 0).toNat + 1) (h2 : ((heightsL xs).getD e 0).toNat ≠ ((heightsL xs).getD d 0).toNat + 1) : Apart xs d e := by
  refine covered_no hg hd he ?_
  rw [Bool.eq_false_iff]
  intro hc
  unfold covered at hc
  obtain ⟨h3, h4⟩ := top_row.1 hc
  by_cases hde : d ≤ e
  · rw [Nat.max_eq_right hde, Nat.min_eq_left hde] at h3 h4
    exact h2 (cover_rank hg hr he h3 h4)
  · rw [Nat.max_eq_left (by omega), Nat.min_eq_right (by omega)] at h3 h4
    exact h1 (cover_rank hg hr hd h3 h4)
/-- the ideal behind a word of ranks -/
def wK (xs ws : List Int) (s : Nat) : Nat := togW xs s (rkW (rankL xs) ws)
theorem wK_append (xs a b : List Int) (s : Nat) : wK xs (a ++ b) s = wK xs b (wK xs a s) := by unfold wK; rw [rkW_append, togW_app]
theorem wK_ideal {xs ws : List Int} {s : Nat} (h : holdsIdeal xs s = true) : holdsIdeal xs (wK xs ws s) = true := togW_ideal h
theorem inW_app {n : Nat} {a b : List Int} (ha : inW n a = true) (hb : inW n b = true) : inW n (a ++ b) = true := by
  unfold inW at *; rw [List.all_append, ha, hb]; rfl
/-- two words whose ranks are apart change places -/
theorem wK_swap {xs : List Int} (hg : good xs = true) (hr : rankedB xs = true) {a b : List Int} (ha : inW (rkN xs) a = true) (hb : inW (rkN xs) b = true)
    (hab : ∀ x ∈ a, ∀ y ∈ b, x ≠ y + 1 ∧ y ≠ x + 1) {s : Nat} (hs : holdsIdeal xs s = true) : wK xs (a ++ b) s = wK xs (b ++ a) s := by
  -- one rank against a word, by the toggles' commuting one by one
  have key : ∀ (A B : List Int), inW xs.length A = true → inW xs.length B = true → (∀ d ∈ A, ∀ e ∈ B, Apart xs d.toNat e.toNat) → ∀ s, holdsIdeal xs s = true → togW xs s (A ++ B) = togW xs s (B ++ A) := by
    intro A
    induction A with
    | nil => intro B _ _ _ s _; simp
    | cons x A ih =>
      intro B hA hB hAB s hs
      have hx := List.all_eq_true.1 hA x (by simp)
      simp only [Bool.and_eq_true, decide_eq_true_eq] at hx
      have hA2 : inW xs.length A = true := List.all_eq_true.2 fun y hy => List.all_eq_true.1 hA y (List.mem_cons_of_mem _ hy)
      have one : ∀ (B : List Int), inW xs.length B = true → (∀ e ∈ B, Apart xs x.toNat e.toNat) → ∀ s, holdsIdeal xs s = true → togW xs (tog xs s x.toNat) B = tog xs (togW xs s B) x.toNat := by
        intro B
        induction B with
        | nil => intro _ _ s _; rfl
        | cons y B ihB =>
          intro hB hxB s hs
          have hy := List.all_eq_true.1 hB y (by simp)
          simp only [Bool.and_eq_true, decide_eq_true_eq] at hy
          have hB2 : inW xs.length B = true := List.all_eq_true.2 fun z hz => List.all_eq_true.1 hB z (List.mem_cons_of_mem _ hz)
          show togW xs (tog xs (tog xs s x.toNat) y.toNat) B = tog xs (togW xs (tog xs s y.toNat) B) x.toNat
          rw [tog_swap hg hs (d := x.toNat) (e := y.toNat) (by omega) (by omega) (hxB y (by simp))]
          exact ihB hB2 (fun e he => hxB e (List.mem_cons_of_mem _ he)) _ (tog_ideal hs)
      show togW xs (tog xs s x.toNat) (A ++ B) = _
      rw [ih B hA2 hB (fun d hd e he => hAB d (List.mem_cons_of_mem _ hd) e he) _ (tog_ideal hs), togW_app, one B hB (hAB x (by simp)) s hs, togW_app]
      rfl
  unfold wK
  rw [rkW_append, rkW_append]
  refine key _ _ (inW_rkW hg ha) (inW_rkW hg hb) (fun d hd e he => ?_) s hs
  obtain ⟨f, rfl, h1, _, h3⟩ := (rkW_mem ha d).1 hd
  obtain ⟨g, rfl, h4, _, h6⟩ := (rkW_mem hb e).1 he
  have := hab _ h3 _ h6
  rw [Int.toNat_natCast, Int.toNat_natCast]
  exact apart_far hg hr h1 h4 (by omega) (by omega)
/-- alike: a word leads one over into the other -/
def Cj (xs : List Int) (f g : Nat → Nat) : Prop := ∃ ys, inW xs.length ys = true ∧ ∀ s, holdsIdeal xs s = true → togW xs (f s) ys = g (togW xs s ys)
theorem Cj.refl (xs : List Int) (f : Nat → Nat) : Cj xs f f := ⟨[], rfl, fun _ _ => rfl⟩
theorem Cj.trans {xs : List Int} {f g k : Nat → Nat} (h1 : Cj xs f g) (h2 : Cj xs g k) : Cj xs f k := by
  obtain ⟨a, ha, h1⟩ := h1
  obtain ⟨b, hb, h2⟩ := h2
  exact ⟨a ++ b, inW_app ha hb, fun s hs => by rw [togW_app, h1 s hs, h2 _ (togW_ideal hs), togW_app]⟩
theorem Cj.of {xs : List Int} {f g f' g' : Nat → Nat} (h : Cj xs f g) (hf : ∀ s, holdsIdeal xs s = true → f' s = f s) (hg : ∀ s, holdsIdeal xs s = true → g' s = g s) : Cj xs f' g' := by
  obtain ⟨a, ha, h⟩ := h
  exact ⟨a, ha, fun s hs => by rw [hf s hs, h s hs, hg _ (togW_ideal hs)]⟩
theorem Cj.rot {xs : List Int} (hg : good xs = true) {a b : List Int} (ha : inW (rkN xs) a = true) : Cj xs (wK xs (a ++ b)) (wK xs (b ++ a)) :=
  ⟨rkW (rankL xs) a, inW_rkW hg ha, fun s hs => by
    show wK xs a (wK xs (a ++ b) s) = wK xs (b ++ a) (wK xs a s)
    rw [wK_append, wK_append]⟩
theorem fsL_up (h : Nat) : fsL (h + 1) 0 = ((h + 1 : Nat) : Int) :: fsL h 0 := by
  rw [← rnL_rev, ← rnL_rev]
  unfold rnL
  rw [show h + 1 + 1 - 0 = (h + 1 - 0) + 1 by omega, List.range_succ]
  simp
theorem rs2_up {a h : Nat} (ha : a ≤ 1) (hp : (h + 1) % 2 = a) : rs2 a (h + 1) = rs2 a h ++ [((h + 1 : Nat) : Int)] := by
  unfold rs2
  have e : (h + 1 + 2 - a) / 2 = (h + 2 - a) / 2 + 1 := by omega
  rw [e, List.range_succ, List.map_append, List.map_singleton]
  congr 3
  omega
theorem rs2_same {a h : Nat} (ha : a ≤ 1) (hp : (h + 1) % 2 ≠ a) : rs2 a (h + 1) = rs2 a h := by
  unfold rs2
  rw [show (h + 1 + 2 - a) / 2 = (h + 2 - a) / 2 by omega]
theorem inW_one {n i : Nat} (h : i < n) : inW n [(i : Int)] = true := by simp [inW]; omega
/-- behind ranks above h + 1, gyration of the ranks up to h is like rowmotion of them -/
theorem gyr_like {xs : List Int} (hg : good xs = true) (hr : rankedB xs = true) : ∀ (h : Nat), h < rkN xs → ∀ X : List Int, inW (rkN xs) X = true → (∀ x ∈ X, (h : Int) + 1 ≤ x) →
    Cj xs (wK xs (X ++ (rs2 0 h ++ rs2 1 h))) (wK xs (X ++ fsL h 0))
  | 0, hh, X, hX, hx => by
    have e1 : rs2 0 0 ++ rs2 1 0 = fsL 0 0 := rfl
    rw [e1]; exact Cj.refl _ _
  | h + 1, hh, X, hX, hx => by
    have hX2 : inW (rkN xs) (X ++ [((h + 1 : Nat) : Int)]) = true := inW_app hX (inW_one hh)
    have hx2 : ∀ x ∈ X ++ [((h + 1 : Nat) : Int)], (h : Int) + 1 ≤ x := by
      intro x hm
      rw [List.mem_append, List.mem_singleton] at hm
      rcases hm with hm | hm
      · have := hx x hm; omega
      · subst hm; omega
    have ih := gyr_like hg hr h (by omega) (X ++ [((h + 1 : Nat) : Int)]) hX2 hx2
    have e0 : X ++ [((h + 1 : Nat) : Int)] ++ fsL h 0 = X ++ fsL (h + 1) 0 := by rw [fsL_up]; simp
    rw [e0] at ih
    by_cases hp : (h + 1) % 2 = 0
    · rw [rs2_up (a := 0) (by omega) hp, rs2_same (a := 1) (by omega) (by omega)]
      refine ih.of (fun s hs => ?_) (fun _ _ => rfl)
      have e1 : X ++ (rs2 0 h ++ [((h + 1 : Nat) : Int)] ++ rs2 1 h) = X ++ ((rs2 0 h ++ [((h + 1 : Nat) : Int)]) ++ rs2 1 h) := by simp
      rw [e1, wK_append, wK_append]
      rw [wK_swap hg hr (inW_rs2 (by omega)) (inW_one hh) (fun x hxm y hy => ?_) (wK_ideal hs)]
      · rw [← wK_append, ← wK_append]
        congr 1
        simp
      · obtain ⟨i, rfl, h1, h2, h3⟩ := (rs2_mem x).1 hxm
        rw [List.mem_singleton] at hy
        subst hy
        omega
    · rw [rs2_same (a := 0) (by omega) hp, rs2_up (a := 1) (by omega) (by omega)]
      have hG : inW (rkN xs) (rs2 0 h ++ rs2 1 h) = true := inW_app (inW_rs2 (by omega)) (inW_rs2 (by omega))
      have hrot : Cj xs (wK xs ((rs2 0 h ++ rs2 1 h) ++ (X ++ [((h + 1 : Nat) : Int)]))) (wK xs ((X ++ [((h + 1 : Nat) : Int)]) ++ (rs2 0 h ++ rs2 1 h))) := Cj.rot hg hG
      refine (hrot.trans ih).of (fun s hs => ?_) (fun _ _ => rfl)
      have e1 : X ++ (rs2 0 h ++ (rs2 1 h ++ [((h + 1 : Nat) : Int)])) = (X ++ (rs2 0 h ++ rs2 1 h)) ++ [((h + 1 : Nat) : Int)] := by simp
      rw [e1, wK_append, wK_swap hg hr hX hG (fun x hxm y hy => ?_) hs, ← wK_append]
      · rw [show rs2 0 h ++ rs2 1 h ++ X ++ [((h + 1 : Nat) : Int)] = rs2 0 h ++ rs2 1 h ++ (X ++ [((h + 1 : Nat) : Int)]) by simp]
      · have h4 := hx x hxm
        rw [List.mem_append] at hy
        rcases hy with hy | hy
        · obtain ⟨i, rfl, h1, h2, h3⟩ := (rs2_mem y).1 hy; omega
        · obtain ⟨i, rfl, h1, h2, h3⟩ := (rs2_mem y).1 hy; omega
theorem gyr_row {xs : List Int} (hg : good xs = true) (hr : rankedB xs = true) : Cj xs (wK xs (wGyr (rkN xs - 1))) (wK xs (wRow (rkN xs - 1))) := by
  have h1 := rkN_bounds hg
  have := gyr_like hg hr (rkN xs - 1) (by omega) [] rfl (fun x hx => by cases hx)
  rw [wGyr_eq, wRow_eq]
  simpa using this
/-! ### orbits of alike motions -/
theorem count_flat {f : Nat → Nat} {D : Nat → Bool} {N : Nat} (h : Mov f D N) (n : Nat) : ∀ st : List Nat, (∀ s ∈ st, D s = true) → (flatO f N st).countP (fun t => per f N t == n) = n * (st.map (per f N)).count n
  | [], _ => by simp [flatO]
  | s :: st, hD => by
    have ih := count_flat h n st fun t ht => hD t (List.mem_cons_of_mem _ ht)
    have hs := hD s (by simp)
    have e : flatO f N (s :: st) = orbN f N s ++ flatO f N st := by simp [flatO]
    rw [e, List.countP_append, ih, List.map_cons, List.count_cons]
    have h1 : (orbN f N s).countP (fun t => per f N t == n) = if per f N s == n then n else 0 := by
      by_cases hp : per f N s = n
      · rw [if_pos (by simpa using hp), List.countP_eq_length.2 (fun t ht => by rw [per_orbC h hs ht]; simpa using hp), orbN_length, hp]
      · rw [if_neg (by simpa using hp), List.countP_eq_zero.2 (fun t ht => by rw [per_orbC h hs ht]; simpa using hp)]
    rw [h1, Nat.mul_add]
    by_cases hp : (per f N s == n) = true
    · rw [if_pos hp, if_pos hp]; omega
    · rw [if_neg hp, if_neg hp]; omega
theorem alike_lens {f g p : Nat → Nat} {D : Nat → Bool} {N : Nat} (hf : Mov f D N) (hg : Mov g D N) (hp : Mov p D N) (hc : ∀ s, D s = true → p (f s) = g (p s)) {ids : List Int}
    (hD : ∀ j, j < ids.length → D (ids.getD j 0).toNat = true) (hall : ∀ t, D t = true → ∃ j, j < ids.length ∧ (ids.getD j 0).toNat = t) :
    ((starts f N ids).map (per f N)).Perm ((starts g N ids).map (per g N)) := by
  have hit : ∀ k s, D s = true → p (iter f k s) = iter g k (p s) := by
    intro k s hs
    induction k with
    | zero => rfl
    | succ k ih => simp only [iter]; rw [hc _ (hf.it hs k), ih]
  have hper : ∀ s, D s = true → per g N (p s) = per f N s := by
    intro s hs
    have h1 : ∀ d, d % per g N (p s) = 0 ↔ d % per f N s = 0 := by
      intro d
      rw [← fix_iff hg (hp.ins s hs) d, ← fix_iff hf hs d, ← hit d s hs]
      exact ⟨fun e => hp.inj _ _ (hf.it hs d) hs e, fun e => by rw [e]⟩
    have h2 := (h1 (per f N s)).2 (Nat.mod_self _)
    have h3 := (h1 (per g N (p s))).1 (Nat.mod_self _)
    exact Nat.dvd_antisymm (Nat.dvd_of_mod_eq_zero h2) (Nat.dvd_of_mod_eq_zero h3)
  have hsD : ∀ (m : Nat → Nat), ∀ s ∈ starts m N ids, D s = true := fun m s hs => startsN_D hD (Nat.le_refl _) hs
  have hLn : ((List.range N).filter D).Nodup := List.Nodup.sublist List.filter_sublist List.nodup_range
  have hLm : ∀ t, t ∈ (List.range N).filter D ↔ D t = true := fun t => by
    rw [List.mem_filter, List.mem_range]
    exact ⟨fun h => h.2, fun h => ⟨hf.lt t h, h⟩⟩
  have hpm : (((List.range N).filter D).map p).Perm ((List.range N).filter D) := by
    have hn2 : (((List.range N).filter D).map p).Nodup := by
      rw [List.nodup_iff_pairwise_ne, List.pairwise_map]
      exact List.Pairwise.imp_of_mem (fun {a b} ha hb hab e => hab (hp.inj a b ((hLm a).1 ha) ((hLm b).1 hb) e)) (List.nodup_iff_pairwise_ne.1 hLn)
    have hsub : ((List.range N).filter D).map p ⊆ (List.range N).filter D := fun t ht => by
      obtain ⟨s, hs, rfl⟩ := List.mem_map.1 ht
      exact (hLm _).2 (hp.ins s ((hLm s).1 hs))
    refine (List.perm_ext_iff_of_nodup hn2 hLn).2 fun t => ⟨fun ht => hsub ht, fun ht => ?_⟩
    have hDt := (hLm t).1 ht
    obtain ⟨n, h1, _, h3⟩ := hp.some_back hDt
    obtain ⟨m, rfl⟩ : ∃ m, n = m + 1 := ⟨n - 1, by omega⟩
    exact List.mem_map.2 ⟨iter p m t, (hLm _).2 (hp.it hDt m), h3⟩
  rw [List.perm_iff_count]
  intro n
  have c1 := count_flat hf n (starts f N ids) (hsD f)
  have c2 := count_flat hg n (starts g N ids) (hsD g)
  rw [← (flatO_perm hf hD hall hLn hLm).countP_eq] at c1
  rw [← (flatO_perm hg hD hall hLn hLm).countP_eq] at c2
  have c3 : ((List.range N).filter D).countP (fun t => per g N t == n) = ((List.range N).filter D).countP (fun t => per f N t == n) := by
    rw [← hpm.countP_eq, List.countP_map]
    apply List.countP_congr
    intro t ht
    simp only [Function.comp]
    rw [hper t ((hLm t).1 ht)]
  rcases Nat.eq_zero_or_pos n with h0 | h0
  · subst h0
    have hz : ∀ (m : Nat → Nat), Mov m D N → ((starts m N ids).map (per m N)).count 0 = 0 := by
      intro m hm
      rw [List.count_eq_zero]
      intro hmem
      obtain ⟨s, hs, e⟩ := List.mem_map.1 hmem
      have := (hm.perS (hsD m s hs)).2.1
      omega
    rw [hz f hf, hz g hg]
  · have : n * ((starts f N ids).map (per f N)).count n = n * ((starts g N ids).map (per g N)).count n := by rw [← c1, ← c2, c3]
    exact Nat.eq_of_mul_eq_mul_left h0 this
end Go.Proofs.YtdemikjaghegnaaGreat

/- Evacuation, of any involutions in a row of which those that are not neighbours commute. No program is named here. -/
namespace Go.Proofs.YtdemikjaghegnaaGreat
set_option linter.unusedVariables false

/-- involutions T 0, .., T (n - 1) on the numbers of kind D -/
structure Ivs (T : Nat → Nat → Nat) (D : Nat → Prop) (n : Nat) : Prop where
  ins : ∀ i s, i < n → D s → D (T i s)
  inv : ∀ i s, i < n → D s → T i (T i s) = s
  com : ∀ i j s, i < n → j < n → i + 2 ≤ j → D s → T i (T j s) = T j (T i s)
def actT (T : Nat → Nat → Nat) (w : List Nat) (s : Nat) : Nat := w.foldl (fun s i => T i s) s
theorem actT_nil (T : Nat → Nat → Nat) (s : Nat) : actT T [] s = s := rfl
theorem actT_cons (T : Nat → Nat → Nat) (i : Nat) (w : List Nat) (s : Nat) : actT T (i :: w) s = actT T w (T i s) := rfl
theorem actT_append (T : Nat → Nat → Nat) (a b : List Nat) (s : Nat) : actT T (a ++ b) s = actT T b (actT T a s) := by simp [actT, List.foldl_append]
/-- all letters are below n -/
def Lt (n : Nat) (w : List Nat) : Prop := ∀ i ∈ w, i < n
theorem Lt.app {n : Nat} {a b : List Nat} (ha : Lt n a) (hb : Lt n b) : Lt n (a ++ b) := fun i hi => (List.mem_append.1 hi).elim (ha i) (hb i)
theorem Lt.mono {m n : Nat} {a : List Nat} (h : Lt m a) (hmn : m ≤ n) : Lt n a := fun i hi => Nat.lt_of_lt_of_le (h i hi) hmn
theorem Ivs.act {T : Nat → Nat → Nat} {D : Nat → Prop} {n : Nat} (H : Ivs T D n) {w : List Nat} (hw : Lt n w) : ∀ s, D s → D (actT T w s) := by
  induction w with
  | nil => exact fun s hs => hs
  | cons i w ih => exact fun s hs => ih (fun j hj => hw j (List.mem_cons_of_mem _ hj)) _ (H.ins i s (hw i (by simp)) hs)
theorem Ivs.rev {T : Nat → Nat → Nat} {D : Nat → Prop} {n : Nat} (H : Ivs T D n) {w : List Nat} (hw : Lt n w) : ∀ s, D s → actT T (w ++ w.reverse) s = s := by
  induction w with
  | nil => exact fun s hs => rfl
  | cons i w ih =>
    intro s hs
    have hi := hw i (by simp)
    have hw2 : Lt n w := fun j hj => hw j (List.mem_cons_of_mem _ hj)
    rw [List.reverse_cons, ← List.append_assoc, actT_append, List.cons_append]
    show T i (actT T (w ++ w.reverse) (T i s)) = s
    rw [ih hw2 _ (H.ins i s hi hs)]
    exact H.inv i s hi hs
theorem Ivs.com' {T : Nat → Nat → Nat} {D : Nat → Prop} {n : Nat} (H : Ivs T D n) {i j s : Nat} (hi : i < n) (hj : j < n) (hij : i + 2 ≤ j ∨ j + 2 ≤ i) (hs : D s) : T i (T j s) = T j (T i s) :=
  hij.elim (fun h => H.com i j s hi hj h hs) (fun h => (H.com j i s hj hi h hs).symm)
theorem Ivs.one {T : Nat → Nat → Nat} {D : Nat → Prop} {n : Nat} (H : Ivs T D n) {i : Nat} (hi : i < n) {b : List Nat} (hb : Lt n b) (h : ∀ j ∈ b, i + 2 ≤ j ∨ j + 2 ≤ i) : ∀ s, D s → actT T b (T i s) = T i (actT T b s) := by
  induction b with
  | nil => exact fun _ _ => rfl
  | cons j b ih =>
    intro s hs
    have hj := hb j (by simp)
    rw [actT_cons, actT_cons, ← H.com' hi hj (h j (by simp)) hs]
    exact ih (fun k hk => hb k (List.mem_cons_of_mem _ hk)) (fun k hk => h k (List.mem_cons_of_mem _ hk)) _ (H.ins j s hj hs)
theorem Ivs.swap {T : Nat → Nat → Nat} {D : Nat → Prop} {n : Nat} (H : Ivs T D n) {a b : List Nat} (ha : Lt n a) (hb : Lt n b) (h : ∀ i ∈ a, ∀ j ∈ b, i + 2 ≤ j ∨ j + 2 ≤ i) : ∀ s, D s → actT T (a ++ b) s = actT T (b ++ a) s := by
  induction a with
  | nil => intro s hs; simp
  | cons i a ih =>
    intro s hs
    have hi := ha i (by simp)
    have ha2 : Lt n a := fun j hj => ha j (List.mem_cons_of_mem _ hj)
    rw [List.cons_append, actT_cons, ih ha2 (fun k hk => h k (List.mem_cons_of_mem _ hk)) _ (H.ins i s hi hs), actT_append, H.one hi hb (h i (by simp)) s hs, actT_append, actT_cons]
/-- 0, 1, .., k - 1 · m, .., n - 1 · up k, up (k - 1), .., up 1 -/
def upW (k : Nat) : List Nat := List.range k
def geW (m n : Nat) : List Nat := (List.range (n - m)).map fun j => m + j
def gaW : Nat → List Nat
  | 0 => []
  | k + 1 => upW (k + 1) ++ gaW k
theorem upW_lt (k : Nat) : Lt k (upW k) := fun i hi => List.mem_range.1 hi
theorem gaW_lt : ∀ k, Lt k (gaW k)
  | 0 => fun i hi => by cases hi
  | k + 1 => (upW_lt (k + 1)).app ((gaW_lt k).mono (Nat.le_succ k))
theorem geW_mem {m n i : Nat} : i ∈ geW m n ↔ m ≤ i ∧ i < n := by
  unfold geW
  rw [List.mem_map]
  constructor
  · rintro ⟨j, hj, rfl⟩; rw [List.mem_range] at hj; omega
  · rintro ⟨h1, h2⟩; exact ⟨i - m, List.mem_range.2 (by omega), by omega⟩
theorem geW_lt (m n : Nat) : Lt n (geW m n) := fun i hi => (geW_mem.1 hi).2
theorem upW_geW {m n : Nat} (h : m ≤ n) : upW m ++ geW m n = upW n := by
  unfold upW geW
  have e := List.range_add (n := m) (m := n - m)
  rw [show m + (n - m) = n by omega] at e
  exact e.symm
theorem upW_succ (k : Nat) : upW (k + 1) = upW k ++ [k] := List.range_succ
/-- evacuation of k + 1 is that of k, and all backwards -/
theorem Ivs.gaBack {T : Nat → Nat → Nat} {D : Nat → Prop} {n : Nat} (H : Ivs T D n) : ∀ k, k + 1 ≤ n → ∀ s, D s → actT T (gaW (k + 1)) s = actT T (gaW k ++ (upW (k + 1)).reverse) s
  | 0, h, s, hs => rfl
  | k + 1, h, s, hs => by
    have h1 : gaW (k + 2) = upW (k + 1) ++ ([k + 1] ++ gaW (k + 1)) := by
      show upW (k + 2) ++ gaW (k + 1) = _
      rw [upW_succ (k + 1), List.append_assoc]
    have hup := (upW_lt (k + 1)).mono (show k + 1 ≤ n by omega)
    rw [h1, actT_append, actT_append]
    have hs1 := H.act hup s hs
    have hs2 : D (actT T [k + 1] (actT T (upW (k + 1)) s)) := H.act (w := [k + 1]) (fun i hi => by rw [List.mem_singleton] at hi; omega) _ hs1
    rw [H.gaBack k (by omega) _ hs2, ← actT_append, ← List.append_assoc, actT_append]
    rw [H.swap (a := [k + 1]) (b := gaW k) (fun i hi => by rw [List.mem_singleton] at hi; omega) ((gaW_lt k).mono (by omega)) (fun i hi j hj => by rw [List.mem_singleton] at hi; have := gaW_lt k j hj; omega) _ hs1]
    rw [← actT_append, ← actT_append]
    congr 1
    rw [upW_succ (k + 1), List.reverse_append]
    show _ = (upW (k + 1) ++ gaW k) ++ ([k + 1] ++ (upW (k + 1)).reverse)
    simp
/-- evacuation undoes itself -/
theorem Ivs.gaTwice {T : Nat → Nat → Nat} {D : Nat → Prop} {n : Nat} (H : Ivs T D n) : ∀ k, k ≤ n → ∀ s, D s → actT T (gaW k) (actT T (gaW k) s) = s
  | 0, h, s, hs => rfl
  | k + 1, h, s, hs => by
    have hg := (gaW_lt k).mono (show k ≤ n by omega)
    have hup := (upW_lt (k + 1)).mono h
    have hr : Lt n (upW (k + 1)).reverse := fun i hi => hup i (List.mem_reverse.1 hi)
    rw [H.gaBack k h s hs, actT_append]
    show actT T (upW (k + 1) ++ gaW k) _ = s
    rw [actT_append, ← actT_append T _ (upW (k + 1))]
    have e := H.rev (w := (upW (k + 1)).reverse) hr (actT T (gaW k) s) (H.act hg s hs)
    rw [List.reverse_reverse] at e
    rw [e]
    exact H.gaTwice k (by omega) s hs
/-- and turns 'all of them in order' round -/
theorem Ivs.gaTurn {T : Nat → Nat → Nat} {D : Nat → Prop} {n : Nat} (H : Ivs T D n) {k : Nat} (h : k + 1 ≤ n) {s : Nat} (hs : D s) : actT T (upW (k + 1)) (actT T (gaW (k + 1)) (actT T (upW (k + 1)) s)) = actT T (gaW (k + 1)) s := by
  have hg := (gaW_lt k).mono (show k ≤ n by omega)
  have hup := (upW_lt (k + 1)).mono h
  have hr : Lt n (upW (k + 1)).reverse := fun i hi => hup i (List.mem_reverse.1 hi)
  have hs1 := H.act hup s hs
  rw [H.gaBack k h _ hs1, actT_append, ← actT_append T _ (upW (k + 1))]
  have e := H.rev (w := (upW (k + 1)).reverse) hr (actT T (gaW k) (actT T (upW (k + 1)) s)) (H.act hg _ hs1)
  rw [List.reverse_reverse] at e
  rw [e, ← actT_append]
  rfl
/-- m .. n - 1, then m - 1 .. n - 1, .., then 1 .. n - 1 -/
def reW (n : Nat) : Nat → List Nat
  | 0 => []
  | m + 1 => geW (m + 1) n ++ reW n m
theorem reW_lt (n : Nat) : ∀ m, Lt n (reW n m)
  | 0 => fun i hi => by cases hi
  | m + 1 => (geW_lt (m + 1) n).app (reW_lt n m)
def powT (T : Nat → Nat → Nat) (w : List Nat) : Nat → Nat → Nat
  | 0, s => s
  | k + 1, s => powT T w k (actT T w s)
theorem powT_last (T : Nat → Nat → Nat) (w : List Nat) : ∀ k s, powT T w (k + 1) s = actT T w (powT T w k s)
  | 0, s => rfl
  | k + 1, s => by rw [powT, powT_last T w k]; rfl
/-- the dual evacuation: n - 1, .., 0, then n - 1, .., 1, .., then n - 1 -/
def duW (n : Nat) : List Nat := (reW n (n - 1) ++ upW n).reverse
theorem Ivs.gaRe {T : Nat → Nat → Nat} {D : Nat → Prop} {n : Nat} (H : Ivs T D n) : ∀ m, m < n → ∀ s, D s → actT T (gaW m ++ reW n m) s = powT T (upW n) m s
  | 0, h, s, hs => rfl
  | m + 1, h, s, hs => by
    have hup := (upW_lt (m + 1)).mono (show m + 1 ≤ n by omega)
    have hs1 := H.act hup s hs
    have e1 : gaW (m + 1) ++ reW n (m + 1) = upW (m + 1) ++ (gaW m ++ geW (m + 1) n ++ reW n m) := by
      show (upW (m + 1) ++ gaW m) ++ (geW (m + 1) n ++ reW n m) = _
      simp
    rw [e1, actT_append, actT_append, H.swap ((gaW_lt m).mono (by omega)) (geW_lt (m + 1) n) (fun i hi j hj => by have := gaW_lt m i hi; have := (geW_mem.1 hj).1; omega) _ hs1, ← actT_append, List.append_assoc, actT_append,
      ← actT_append T (upW (m + 1)), upW_geW (by omega)]
    exact H.gaRe m (by omega) _ (H.act (upW_lt n) s hs)
theorem Ivs.duTwo {T : Nat → Nat → Nat} {D : Nat → Prop} {n : Nat} (H : Ivs T D n) (h1 : 1 ≤ n) {s : Nat} (hs : D s) (hd : actT T (duW n) (actT T (duW n) s) = s) (hall : ∀ t, D t → actT T (duW n) (actT T (duW n) t) = t) : actT T (duW n) (actT T (gaW n) s) = powT T (upW n) (n + 1) s := by
  obtain ⟨m, rfl⟩ : ∃ m, n = m + 1 := ⟨n - 1, by omega⟩
  have hre : Lt (m + 1) (reW (m + 1) m ++ upW (m + 1)) := (reW_lt (m + 1) m).app (upW_lt (m + 1))
  have hdl : Lt (m + 1) (duW (m + 1)) := fun i hi => hre i (List.mem_reverse.1 hi)
  have hg := H.act (gaW_lt (m + 1)) s hs
  -- the dual is its own reverse
  have e : actT T (duW (m + 1)) (actT T (gaW (m + 1)) s) = actT T (reW (m + 1) m ++ upW (m + 1)) (actT T (gaW (m + 1)) s) := by
    have e1 := H.rev (w := duW (m + 1)) hdl (actT T (gaW (m + 1)) s) hg
    have e2 : (duW (m + 1)).reverse = reW (m + 1) m ++ upW (m + 1) := List.reverse_reverse _
    rw [e2, actT_append] at e1
    have hd2 := H.act hdl _ hg
    have e3 := hall _ hg
    have e4 : ∀ t, D t → actT T (reW (m + 1) m ++ upW (m + 1)) (actT T (duW (m + 1)) t) = t := fun t ht => by
      have := H.rev (w := duW (m + 1)) hdl t ht
      rwa [e2, actT_append] at this
    have e5 := e4 _ hd2
    rw [e3] at e5
    exact e5.symm
  rw [e, actT_append, ← actT_append T (gaW (m + 1))]
  have e6 : gaW (m + 1) ++ reW (m + 1) m = upW (m + 1) ++ (gaW m ++ reW (m + 1) m) := by
    show (upW (m + 1) ++ gaW m) ++ _ = _
    simp
  rw [e6, actT_append, H.gaRe m (by omega) _ (H.act (upW_lt (m + 1)) s hs), ← powT_last]
  rfl
/-- the involutions in the other order -/
theorem Ivs.flip {T : Nat → Nat → Nat} {D : Nat → Prop} {n : Nat} (H : Ivs T D n) : Ivs (fun i => T (n - 1 - i)) D n where
  ins i s hi hs := H.ins _ s (by omega) hs
  inv i s hi hs := H.inv _ s (by omega) hs
  com i j s hi hj hij hs := (H.com (n - 1 - j) (n - 1 - i) s (by omega) (by omega) (by omega) hs).symm
theorem actT_flip (T : Nat → Nat → Nat) (n : Nat) : ∀ (w : List Nat) (s : Nat), actT (fun i => T (n - 1 - i)) w s = actT T (w.map fun i => n - 1 - i) s
  | [], s => rfl
  | i :: w, s => by rw [actT_cons, List.map_cons, actT_cons]; exact actT_flip T n w _
theorem upW_flip (n k : Nat) (hk : k ≤ n) : (upW k).map (fun i => n - 1 - i) = (geW (n - k) n).reverse := by
  apply List.ext_getElem
  · simp [upW, geW]; omega
  · intro i h1 h2
    rw [List.getElem_reverse]
    simp only [upW, geW, List.getElem_map, List.getElem_range, List.length_map, List.length_range]
    have : i < k := by simpa [upW] using h1
    omega
def reX (n : Nat) : Nat → List Nat
  | 0 => []
  | k + 1 => reX n k ++ geW (n - (k + 1)) n
theorem gaW_flip (n : Nat) : ∀ k, k ≤ n → (gaW k).map (fun i => n - 1 - i) = (reX n k).reverse
  | 0, _ => rfl
  | k + 1, h => by
    show (upW (k + 1) ++ gaW k).map _ = (reX n k ++ geW (n - (k + 1)) n).reverse
    rw [List.map_append, upW_flip n (k + 1) h, gaW_flip n k (by omega), List.reverse_append]
theorem reX_reW (n : Nat) : ∀ k, k + 1 ≤ n → reX n k ++ reW n (n - 1 - k) = reW n (n - 1)
  | 0, _ => rfl
  | k + 1, h => by
    have ih := reX_reW n k (by omega)
    have e : reW n (n - 1 - k) = geW (n - (k + 1)) n ++ reW n (n - 1 - (k + 1)) := by
      obtain ⟨m, hm⟩ : ∃ m, n - 1 - k = m + 1 := ⟨n - 1 - k - 1, by omega⟩
      rw [hm, show n - (k + 1) = m + 1 by omega, show n - 1 - (k + 1) = m by omega]; rfl
    rw [e, ← List.append_assoc] at ih
    exact ih
theorem duW_flip {n : Nat} (h : 1 ≤ n) : (gaW n).map (fun i => n - 1 - i) = duW n := by
  rw [gaW_flip n n (Nat.le_refl _)]
  unfold duW
  congr 1
  obtain ⟨m, rfl⟩ : ∃ m, n = m + 1 := ⟨n - 1, by omega⟩
  have e := reX_reW (m + 1) m (by omega)
  rw [show m + 1 - 1 - m = 0 by omega] at e
  show reX (m + 1) m ++ geW (m + 1 - (m + 1)) (m + 1) = _
  rw [← e, show m + 1 - (m + 1) = 0 by omega]
  have e2 : geW 0 (m + 1) = upW (m + 1) := by simp [geW, upW]
  rw [e2]
  simp [reW]
theorem Ivs.duTwice {T : Nat → Nat → Nat} {D : Nat → Prop} {n : Nat} (H : Ivs T D n) (h : 1 ≤ n) {s : Nat} (hs : D s) : actT T (duW n) (actT T (duW n) s) = s := by
  have e := H.flip.gaTwice n (Nat.le_refl _) s hs
  rw [actT_flip, actT_flip, duW_flip h] at e
  exact e
theorem duW_lt {n : Nat} : Lt n (duW n) := fun i hi => ((reW_lt n (n - 1)).app (upW_lt n)) i (List.mem_reverse.1 hi)
theorem Ivs.duTurn {T : Nat → Nat → Nat} {D : Nat → Prop} {n : Nat} (H : Ivs T D n) (h : 1 ≤ n) {s : Nat} (hs : D s) : actT T (upW n) (actT T (duW n) (actT T (upW n) s)) = actT T (duW n) s := by
  obtain ⟨m, rfl⟩ : ∃ m, n = m + 1 := ⟨n - 1, by omega⟩
  have hup := upW_lt (m + 1)
  have hr : Lt (m + 1) (upW (m + 1)).reverse := fun i hi => hup i (List.mem_reverse.1 hi)
  have hs1 := H.act hup s hs
  have e := H.flip.gaTurn (k := m) (Nat.le_refl _) hs1
  rw [actT_flip, actT_flip, actT_flip, actT_flip, duW_flip h, upW_flip (m + 1) (m + 1) (Nat.le_refl _), show m + 1 - (m + 1) = 0 by omega] at e
  have e2 : geW 0 (m + 1) = upW (m + 1) := by simp [geW, upW]
  rw [e2] at e
  have e3 := H.rev hup s hs
  rw [actT_append] at e3
  rw [e3] at e
  have hd := H.act duW_lt s hs
  have e4 := H.rev hr _ hd
  rw [List.reverse_reverse, actT_append, e] at e4
  exact e4
theorem Ivs.gaDu {T : Nat → Nat → Nat} {D : Nat → Prop} {n : Nat} (H : Ivs T D n) (h1 : 1 ≤ n) {s : Nat} (hs : D s) : actT T (duW n) (actT T (gaW n) s) = powT T (upW n) (n + 1) s :=
  H.duTwo h1 hs (H.duTwice h1 hs) fun t ht => H.duTwice h1 ht
end Go.Proofs.YtdemikjaghegnaaGreat

/- Rowvacuation and its dual: they undo themselves, turn rowmotion round, and together are rowmotions. -/
namespace Go.Proofs.YtdemikjaghegnaaGreat
open Go.RowKit Go.WideShapes Go.ChangeShapes
set_option linter.unusedVariables false

theorem togW_rev {xs : List Int} : ∀ (L : List Int) (s : Nat), holdsIdeal xs s = true → togW xs s (L ++ L.reverse) = s
  | [], s, _ => rfl
  | x :: L, s, hs => by
    rw [List.reverse_cons, ← List.append_assoc, togW_app, List.cons_append]
    show tog xs (togW xs (tog xs s x.toNat) (L ++ L.reverse)) x.toNat = s
    rw [togW_rev L _ (tog_ideal hs)]
    exact tog_tog hs
theorem togW_self {xs : List Int} (hg : good xs = true) {L : List Int} (hin : inW xs.length L = true) (hap : ∀ d ∈ L, ∀ e ∈ L, Apart xs d.toNat e.toNat) {s : Nat} (hs : holdsIdeal xs s = true) : togW xs (togW xs s L) L = s := by
  rw [togW_perm hg (List.reverse_perm L).symm hin hap _ (togW_ideal hs), ← togW_app]
  exact togW_rev L s hs
theorem rank_self {xs : List Int} (hg : good xs = true) (hr : rankedB xs = true) {i : Nat} (hi : i < rkN xs) {s : Nat} (hs : holdsIdeal xs s = true) : wK xs [(i : Int)] (wK xs [(i : Int)] s) = s := by
  have hin := inW_rkW hg (inW_one hi)
  refine togW_self hg hin (fun d hd e he => ?_) hs
  obtain ⟨f, rfl, h1, _, h3⟩ := (rkW_mem (inW_one hi) d).1 hd
  obtain ⟨g, rfl, h4, _, h6⟩ := (rkW_mem (inW_one hi) e).1 he
  rw [List.mem_singleton] at h3 h6
  rw [Int.toNat_natCast, Int.toNat_natCast]
  exact apart_far hg hr h1 h4 (by omega) (by omega)
/-- the ranks, from above -/
def rT (xs : List Int) (h t s : Nat) : Nat := wK xs [((h - t : Nat) : Int)] s
theorem rIvs {xs : List Int} (hg : good xs = true) (hr : rankedB xs = true) {h : Nat} (hh : rkN xs = h + 1) : Ivs (rT xs h) (fun s => holdsIdeal xs s = true) (h + 1) where
  ins i s hi hs := wK_ideal hs
  inv i s hi hs := rank_self hg hr (by omega) hs
  com i j s hi hj hij hs := by
    unfold rT
    rw [← wK_append, ← wK_append]
    refine wK_swap hg hr (inW_one (by omega)) (inW_one (by omega)) (fun x hx y hy => ?_) hs
    rw [List.mem_singleton] at hx hy
    omega
theorem actT_wK (xs : List Int) (h : Nat) : ∀ (w : List Nat) (s : Nat), actT (rT xs h) w s = wK xs (w.map fun t => ((h - t : Nat) : Int)) s
  | [], s => rfl
  | t :: w, s => by
    rw [actT_cons, actT_wK xs h w, List.map_cons, show ((h - t : Nat) : Int) :: (w.map fun t => ((h - t : Nat) : Int)) = [((h - t : Nat) : Int)] ++ (w.map fun t => ((h - t : Nat) : Int)) from rfl, wK_append]
    rfl
theorem upW_map (h m : Nat) (hm : m ≤ h + 1) : (upW m).map (fun t => ((h - t : Nat) : Int)) = fsL h (h + 1 - m) := by
  unfold upW fsL
  rw [show h + 1 - (h + 1 - m) = m by omega]
theorem gaW_map (h : Nat) : ∀ d, d ≤ h + 1 → swL (fVac h) (h + 1 - d) ++ (gaW d).map (fun t => ((h - t : Nat) : Int)) = wVac h
  | 0, _ => by show swL (fVac h) (h + 1) ++ [] = _; rw [List.append_nil]; rfl
  | d + 1, hd => by
    have ih := gaW_map h d (by omega)
    have e1 : swL (fVac h) (h + 1 - d) = swL (fVac h) (h + 1 - (d + 1)) ++ fsL h (h + 1 - (d + 1)) := by
      rw [show h + 1 - d = (h + 1 - (d + 1)) + 1 by omega, swL_succ]; rfl
    rw [e1, List.append_assoc] at ih
    show _ ++ (upW (d + 1) ++ gaW d).map _ = _
    rw [List.map_append, upW_map h (d + 1) hd]
    exact ih
theorem gaW_vac (h : Nat) : (gaW (h + 1)).map (fun t => ((h - t : Nat) : Int)) = wVac h := by
  have := gaW_map h (h + 1) (Nat.le_refl _)
  rwa [Nat.sub_self] at this
theorem gaW_cast (h : Nat) : ∀ d, d ≤ h + 1 → swL (fDual h) (h + 1 - d) ++ (gaW d).map (fun t : Nat => (t : Int)) = wDual h
  | 0, _ => by show swL (fDual h) (h + 1) ++ [] = _; rw [List.append_nil]; rfl
  | d + 1, hd => by
    have ih := gaW_cast h d (by omega)
    have e0 : (upW (d + 1)).map (fun t : Nat => (t : Int)) = fDual h (h + 1 - (d + 1)) := by
      unfold upW fDual rnL
      rw [show h - (h + 1 - (d + 1)) + 1 - 0 = d + 1 by omega]
      congr 1
      funext j
      simp
    have e1 : swL (fDual h) (h + 1 - d) = swL (fDual h) (h + 1 - (d + 1)) ++ fDual h (h + 1 - (d + 1)) := by
      rw [show h + 1 - d = (h + 1 - (d + 1)) + 1 by omega, swL_succ]
    rw [e1, List.append_assoc] at ih
    show _ ++ (upW (d + 1) ++ gaW d).map _ = _
    rw [List.map_append, e0]
    exact ih
theorem duW_dual (h : Nat) : (duW (h + 1)).map (fun t => ((h - t : Nat) : Int)) = wDual h := by
  rw [← duW_flip (by omega), List.map_map]
  have e := gaW_cast h (h + 1) (Nat.le_refl _)
  rw [Nat.sub_self] at e
  rw [← e]
  show _ = (gaW (h + 1)).map (fun t : Nat => (t : Int))
  apply List.map_congr_left
  intro t ht
  have := gaW_lt (h + 1) t ht
  simp only [Function.comp]
  omega
theorem up_row {xs : List Int} (hg : good xs = true) {h : Nat} (hh : rkN xs = h + 1) {s : Nat} (hs : s < 2 ^ xs.length) (hi : holdsIdeal xs s = true) : actT (rT xs h) (upW (h + 1)) s = rowmo xs s := by
  rw [actT_wK, upW_map h (h + 1) (Nat.le_refl _), Nat.sub_self]
  have := rank_row hg hh hs hi
  rw [wRow_eq] at this
  exact this
/-- rowvacuation, its dual -/
def vac (xs : List Int) (h s : Nat) : Nat := togW xs s (rkW (rankL xs) (wVac h))
def duv (xs : List Int) (h s : Nat) : Nat := togW xs s (rkW (rankL xs) (wDual h))
theorem vac_act (xs : List Int) (h s : Nat) : vac xs h s = actT (rT xs h) (gaW (h + 1)) s := by rw [actT_wK, gaW_vac]; rfl
theorem duv_act (xs : List Int) (h s : Nat) : duv xs h s = actT (rT xs h) (duW (h + 1)) s := by rw [actT_wK, duW_dual]; rfl
theorem vac_lt {xs : List Int} (hg : good xs = true) {h : Nat} (hh : rkN xs = h + 1) {s : Nat} (hs : s < 2 ^ xs.length) : vac xs h s < 2 ^ xs.length := togW_lt hs (inW_rkW hg (inW_wVac (by omega)))
theorem duv_lt {xs : List Int} (hg : good xs = true) {h : Nat} (hh : rkN xs = h + 1) {s : Nat} (hs : s < 2 ^ xs.length) : duv xs h s < 2 ^ xs.length := togW_lt hs (inW_rkW hg (inW_wDual (by omega)))
theorem vac_ideal {xs : List Int} {h s : Nat} (hi : holdsIdeal xs s = true) : holdsIdeal xs (vac xs h s) = true := togW_ideal hi
theorem duv_ideal {xs : List Int} {h s : Nat} (hi : holdsIdeal xs s = true) : holdsIdeal xs (duv xs h s) = true := togW_ideal hi
theorem vac_twice {xs : List Int} (hg : good xs = true) (hr : rankedB xs = true) {h : Nat} (hh : rkN xs = h + 1) {s : Nat} (hi : holdsIdeal xs s = true) : vac xs h (vac xs h s) = s := by
  rw [vac_act, vac_act]
  exact (rIvs hg hr hh).gaTwice (h + 1) (Nat.le_refl _) s hi
theorem duv_twice {xs : List Int} (hg : good xs = true) (hr : rankedB xs = true) {h : Nat} (hh : rkN xs = h + 1) {s : Nat} (hi : holdsIdeal xs s = true) : duv xs h (duv xs h s) = s := by
  rw [duv_act, duv_act]
  exact (rIvs hg hr hh).duTwice (by omega) hi
theorem vac_turn {xs : List Int} (hg : good xs = true) (hr : rankedB xs = true) {h : Nat} (hh : rkN xs = h + 1) {s : Nat} (hs : s < 2 ^ xs.length) (hi : holdsIdeal xs s = true) : rowmo xs (vac xs h (rowmo xs s)) = vac xs h s := by
  have hr1 := rowmo_lt hg s
  have hr2 := rowmo_ideal hg s
  rw [← up_row hg hh (vac_lt hg hh hr1) (vac_ideal hr2), vac_act, vac_act, ← up_row hg hh hs hi]
  exact (rIvs hg hr hh).gaTurn (Nat.le_refl _) hi
theorem duv_turn {xs : List Int} (hg : good xs = true) (hr : rankedB xs = true) {h : Nat} (hh : rkN xs = h + 1) {s : Nat} (hs : s < 2 ^ xs.length) (hi : holdsIdeal xs s = true) : rowmo xs (duv xs h (rowmo xs s)) = duv xs h s := by
  have hr1 := rowmo_lt hg s
  have hr2 := rowmo_ideal hg s
  rw [← up_row hg hh (duv_lt hg hh hr1) (duv_ideal hr2), duv_act, duv_act, ← up_row hg hh hs hi]
  exact (rIvs hg hr hh).duTurn (by omega) hi
theorem pow_row {xs : List Int} (hg : good xs = true) {h : Nat} (hh : rkN xs = h + 1) {s : Nat} (hs : s < 2 ^ xs.length) (hi : holdsIdeal xs s = true) : ∀ k, powT (rT xs h) (upW (h + 1)) k s = iter (rowmo xs) k s ∧ iter (rowmo xs) k s < 2 ^ xs.length ∧ holdsIdeal xs (iter (rowmo xs) k s) = true
  | 0 => ⟨rfl, hs, hi⟩
  | k + 1 => by
    obtain ⟨h1, h2, h3⟩ := pow_row hg hh hs hi k
    refine ⟨?_, rowmo_lt hg _, rowmo_ideal hg _⟩
    rw [powT_last, h1, up_row hg hh h2 h3]
    rfl
theorem both_rows {xs : List Int} (hg : good xs = true) (hr : rankedB xs = true) {h : Nat} (hh : rkN xs = h + 1) {s : Nat} (hs : s < 2 ^ xs.length) (hi : holdsIdeal xs s = true) : duv xs h (vac xs h s) = iter (rowmo xs) (h + 2) s := by
  rw [duv_act, vac_act, (rIvs hg hr hh).gaDu (by omega) hi, (pow_row hg hh hs hi (h + 2)).1]
end Go.Proofs.YtdemikjaghegnaaGreat
