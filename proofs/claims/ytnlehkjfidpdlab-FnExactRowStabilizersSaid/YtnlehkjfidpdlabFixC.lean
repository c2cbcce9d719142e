/- What a motion leaves fixed behind some steps, counted by its orbits. No program is named here. -/
import Derived.Test.YtnlehkjfidpdlabLens
namespace Go.Proofs.Ytnlehkjfidpdlab
set_option linter.unusedVariables false

theorem per_orbC {f : Nat → Nat} {D : Nat → Bool} {N : Nat} (h : Mov f D N) {s t : Nat} (hs : D s = true) (ht : t ∈ orbN f N s) : per f N t = per f N s := by
  have hd := mem_orbN_D h hs ht
  have key : ∀ a b, D a = true → b ∈ orbN f N a → per f N b ≤ per f N a := by
    intro a b ha hb
    have hbd := mem_orbN_D h ha hb
    obtain ⟨k, rfl⟩ := (mem_orbN h ha b).1 hb
    obtain ⟨h1, h2, -, -⟩ := h.perS ha
    obtain ⟨-, -, -, h4⟩ := h.perS hbd
    rcases Nat.lt_or_ge (per f N a) (per f N (iter f k a)) with hlt | hge
    · exfalso
      refine h4 _ h2 hlt ?_
      rw [← iter_add, Nat.add_comm, iter_add, h1]
    · exact hge
  exact Nat.le_antisymm (key s t hs ht) (key t s hd (mem_orbN_symm h hs ht))
theorem fix_iff {f : Nat → Nat} {D : Nat → Bool} {N : Nat} (h : Mov f D N) {s : Nat} (hs : D s = true) (d : Nat) : iter f d s = s ↔ d % per f N s = 0 := by
  obtain ⟨h1, h2, h3, h4⟩ := h.perS hs
  have hlt := Nat.mod_lt d (show 0 < per f N s by omega)
  constructor
  · intro e
    rw [h.md hs d] at e
    rcases Nat.eq_zero_or_pos (d % per f N s) with h0 | h0
    · exact h0
    · exact absurd e (h4 _ h0 hlt)
  · intro e
    rw [h.md hs d, e]; rfl
theorem orbN_nodup {f : Nat → Nat} {D : Nat → Bool} {N : Nat} (h : Mov f D N) {s : Nat} (hs : D s = true) : (orbN f N s).Nodup :=
  nodup_map_range _ fun i j h1 h2 => h.orb_ne hs h1 h2
def flatO (f : Nat → Nat) (N : Nat) (st : List Nat) : List Nat := st.flatMap (orbN f N)
theorem flatO_mem (f : Nat → Nat) (N : Nat) (st : List Nat) (t : Nat) : t ∈ flatO f N st ↔ seenB f N st t = true := by
  unfold flatO seenB
  rw [List.mem_flatMap, List.any_eq_true]
  constructor
  · rintro ⟨s, h1, h2⟩; exact ⟨s, h1, List.contains_iff_mem.2 h2⟩
  · rintro ⟨s, h1, h2⟩; exact ⟨s, h1, List.contains_iff_mem.1 h2⟩
theorem flatO_nodup {f : Nat → Nat} {D : Nat → Bool} {N : Nat} (h : Mov f D N) {ids : List Int} (hD : ∀ j, j < ids.length → D (ids.getD j 0).toNat = true) (k : Nat) (hk : k ≤ ids.length) : (flatO f N (startsN f N ids k)).Nodup := by
  induction k with
  | zero => simp [flatO, startsN]
  | succ k ih =>
    have hDk := hD k (by omega)
    cases hq : seenB f N (startsN f N ids k) (ids.getD k 0).toNat
    · rw [startsN_no hq]
      unfold flatO
      rw [List.flatMap_append, List.nodup_append]
      refine ⟨ih (by omega), by simpa using orbN_nodup h hDk, fun a ha b hb e => ?_⟩
      subst e
      have h1 := (flatO_mem f N _ a).1 ha
      have h2 : a ∈ orbN f N (ids.getD k 0).toNat := by simpa using hb
      rw [seenB_orb h (fun s hs => startsN_D hD (show k ≤ ids.length by omega) hs) hDk hq h2] at h1
      cases h1
    · rw [startsN_yes hq]; exact ih (by omega)
theorem flatO_all {f : Nat → Nat} {D : Nat → Bool} {N : Nat} (h : Mov f D N) {ids : List Int} (hD : ∀ j, j < ids.length → D (ids.getD j 0).toNat = true) (hall : ∀ t, D t = true → ∃ j, j < ids.length ∧ (ids.getD j 0).toNat = t) (t : Nat) : t ∈ flatO f N (starts f N ids) ↔ D t = true := by
  rw [flatO_mem]
  constructor
  · intro hs
    unfold seenB at hs
    rw [List.any_eq_true] at hs
    obtain ⟨s, h1, h2⟩ := hs
    exact mem_orbN_D h (startsN_D hD (Nat.le_refl _) h1) (List.contains_iff_mem.1 h2)
  · intro ht
    obtain ⟨j, hj, rfl⟩ := hall t ht
    exact startsN_seen h hD (Nat.le_refl _) hj
theorem flatO_perm {f : Nat → Nat} {D : Nat → Bool} {N : Nat} (h : Mov f D N) {ids : List Int} (hD : ∀ j, j < ids.length → D (ids.getD j 0).toNat = true) (hall : ∀ t, D t = true → ∃ j, j < ids.length ∧ (ids.getD j 0).toNat = t) {L : List Nat} (hn : L.Nodup) (hL : ∀ t, t ∈ L ↔ D t = true) : L.Perm (flatO f N (starts f N ids)) := by
  refine (List.perm_ext_iff_of_nodup hn (flatO_nodup h hD _ (Nat.le_refl _))).2 fun t => ?_
  rw [hL, ← flatO_all h hD hall]; rfl
theorem fix_count {f : Nat → Nat} {D : Nat → Bool} {N : Nat} (h : Mov f D N) {ids : List Int} (hD : ∀ j, j < ids.length → D (ids.getD j 0).toNat = true) (hall : ∀ t, D t = true → ∃ j, j < ids.length ∧ (ids.getD j 0).toNat = t) {L : List Nat} (hn : L.Nodup) (hL : ∀ t, t ∈ L ↔ D t = true) (d : Nat) :
    L.countP (fun s => iter f d s == s) = ((starts f N ids).map fun s => if d % per f N s = 0 then per f N s else 0).sum := by
  rw [(flatO_perm h hD hall hn hL).countP_eq]
  unfold flatO
  rw [List.countP_flatMap]
  congr 1
  refine List.map_congr_left fun s hs => ?_
  have hDs := startsN_D hD (Nat.le_refl _) hs
  show (orbN f N s).countP _ = _
  by_cases hz : d % per f N s = 0
  · rw [if_pos hz]
    have : (orbN f N s).countP (fun s => iter f d s == s) = (orbN f N s).length := by
      rw [List.countP_eq_length]
      intro t ht
      have hDt := mem_orbN_D h hDs ht
      exact beq_iff_eq.2 ((fix_iff h hDt d).2 (by rw [per_orbC h hDs ht]; exact hz))
    rw [this, orbN_length]
  · rw [if_neg hz]
    rw [List.countP_eq_zero]
    intro t ht hc
    have hDt := mem_orbN_D h hDs ht
    have := (fix_iff h hDt d).1 (beq_iff_eq.1 hc)
    rw [per_orbC h hDs ht] at this
    exact hz this
theorem fixN_sum (n : Nat) (ls : List Int) (k : Nat) (hk : k ≤ ls.length) : fixN n ls k = ((ls.take k).map fun x => if n % x.toNat = 0 then x.toNat else 0).sum := by
  induction k with
  | zero => simp [fixN]
  | succ k ih =>
    rw [fixN, ih (by omega), List.take_add_one]
    have e : ls[k]? = some (ls.getD k 0) := by rw [List.getD_eq_getElem?_getD, List.getElem?_eq_getElem (show k < ls.length by omega)]; rfl
    rw [e, List.map_append, List.sum_append]
    obtain ⟨x, hx⟩ : ∃ x, ls.getD k 0 = x := ⟨_, rfl⟩
    rw [hx]
    by_cases hc : n % x.toNat = 0
    · rw [if_pos hc]; simp only [Option.toList_some, List.map_cons, List.map_nil, List.sum_cons, List.sum_nil]; rw [if_pos hc]; rfl
    · rw [if_neg hc]; simp only [Option.toList_some, List.map_cons, List.map_nil, List.sum_cons, List.sum_nil]; rw [if_neg hc]; rfl
/-- the ideals as numbers -/
def idNs (xs : List Int) : List Nat := (List.range (2 ^ xs.length)).filter (holdsIdeal xs)
theorem idNs_ints (xs : List Int) : idsXs xs = (idNs xs).map fun s : Nat => (s : Int) := rfl
def fixC (xs : List Int) (d : Nat) : Nat → Nat
  | 0 => 0
  | j + 1 => if iter (rowmo xs) d ((idNs xs).getD j 0) = (idNs xs).getD j 0 then fixC xs d j + 1 else fixC xs d j
theorem fixC_yes {xs : List Int} {d j s : Nat} (e : (idNs xs).getD j 0 = s) (h : iter (rowmo xs) d s = s) : fixC xs d (j + 1) = fixC xs d j + 1 := by rw [fixC, e, if_pos h]
theorem fixC_no {xs : List Int} {d j s : Nat} (e : (idNs xs).getD j 0 = s) (h : ¬ iter (rowmo xs) d s = s) : fixC xs d (j + 1) = fixC xs d j := by rw [fixC, e, if_neg h]
theorem fixC_le (xs : List Int) (d j : Nat) : fixC xs d j ≤ j := by
  induction j with
  | zero => exact Nat.le_refl _
  | succ j ih => rw [fixC]; split <;> omega
theorem fixC_take (xs : List Int) (d j : Nat) (hj : j ≤ (idNs xs).length) : fixC xs d j = ((idNs xs).take j).countP fun s => iter (rowmo xs) d s == s := by
  induction j with
  | zero => simp [fixC]
  | succ j ih =>
    rw [fixC, ih (by omega), List.take_add_one]
    have e : (idNs xs)[j]? = some ((idNs xs).getD j 0) := by rw [List.getD_eq_getElem?_getD, List.getElem?_eq_getElem (show j < (idNs xs).length by omega)]; rfl
    rw [e, List.countP_append]
    obtain ⟨x, hx⟩ : ∃ x, (idNs xs).getD j 0 = x := ⟨_, rfl⟩
    rw [hx]
    by_cases hc : iter (rowmo xs) d x = x
    · rw [if_pos hc]; simp [hc]
    · rw [if_neg hc]; simp [hc]
theorem fixC_fixN {xs : List Int} (hg : good xs = true) (d : Nat) : fixC xs d (idNs xs).length = fixN d (lensXs xs) (lensXs xs).length := by
  rw [fixC_take xs d _ (Nat.le_refl _), List.take_length, fixN_sum _ _ _ (Nat.le_refl _), List.take_length, lensXs_starts, List.map_map]
  have hn : (idNs xs).Nodup := List.Pairwise.filter _ List.nodup_range
  have hL : ∀ t, t ∈ idNs xs ↔ idB xs t = true := fun t => by
    unfold idNs idB
    rw [List.mem_filter, List.mem_range, Bool.and_eq_true, decide_eq_true_eq]
  have hall : ∀ t, idB xs t = true → ∃ j, j < (idsXs xs).length ∧ ((idsXs xs).getD j 0).toNat = t := fun t ht => by
    obtain ⟨j, hj, he⟩ := List.getElem_of_mem ((hL t).2 ht)
    refine ⟨j, by rw [idNs_ints, List.length_map]; exact hj, ?_⟩
    rw [idNs_ints, List.getD_eq_getElem?_getD, List.getElem?_map, List.getElem?_eq_getElem hj, he]; simp
  rw [fix_count (rowMov hg) (idsXs_D xs) hall hn hL d]
  rfl
end Go.Proofs.Ytnlehkjfidpdlab
