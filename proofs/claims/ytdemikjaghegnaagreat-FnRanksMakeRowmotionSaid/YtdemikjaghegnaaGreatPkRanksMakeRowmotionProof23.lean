/- Texts RkR, one behind the other. -/
import Derived.Test.YtdemikjaghegnaaGreatPkRanksMakeRowmotionProof14
import Derived.Test.YtdemikjaghegnaaGreatPkRanksMakeRowmotionProof20
import Derived.Test.YtdemikjaghegnaaGreatPkRanksMakeRowmotionProof21
import Derived.Test.YtdemikjaghegnaaGreatPkRanksMakeRowmotionProof22
/- The facts that the law on ranks asks for. -/
namespace Go.Proofs.YtdemikjaghegnaaGreat
open Go.RowKit Go.WideShapes Go.ChangeShapes
set_option linter.unusedVariables false

theorem okId_natR {xs : List Int} {z : Nat} (hg : good xs = true) (hz : z < 2 ^ xs.length) (hi : holdsIdeal xs z = true) : okIdeal xs (z : Int) = true := by
  rw [okIdeal, okSet_nat hg hz, Int.toNat_natCast, hi]; rfl
theorem okRI_natR {xs : List Int} {z : Nat} (hg : good xs = true) (hr : rankedB xs = true) (hz : z < 2 ^ xs.length) (hi : holdsIdeal xs z = true) : okRI xs (z : Int) = true := by
  rw [okRI, okId_natR hg hz hi, okRk, hg, hr]; rfl
/-- rowmotion by ranks -/
theorem rowFacts {xs : List Int} {h z : Nat} (hg : good xs = true) (hr : rankedB xs = true) (hh : rkN xs = h + 1) (hz : z < 2 ^ xs.length) (hi : holdsIdeal xs z = true) :
    ∃ N : Nat, okRI xs (z : Int) = true ∧ okIdeal xs (z : Int) = true ∧ ansSW wRow xs (z : Int) = (N : Int) ∧ ansRow xs (z : Int) rowmo = (N : Int) ∧ N < 1024 ∧ ansRO xs = rankL xs ∧ (rankL xs).length = h + 1 ∧ okRk xs = true ∧ xs.length ≤ 10 := by
  have hl := (good_length hg).2
  have o1 := okRI_natR hg hr hz hi
  have o4 := okId_natR hg hz hi
  have hk : okRk xs = true := by rw [okRk, hg, hr]; rfl
  refine ⟨rowmo xs z, o1, o4, ?_, ansRow_yes o4, lt1024 (rowmo_lt hg z) hl, ansRO_yes hk, by rw [rankL_length, hh], hk, hl⟩
  have e := ansSW_yes (f := wRow) o1 hh
  rw [e]; congr 1; exact rank_row hg hh hz hi
/-- a rank toggled, and toggled again -/
theorem onceFacts {xs : List Int} {h z : Nat} (hg : good xs = true) (hr : rankedB xs = true) (hh : rkN xs = h + 1) (hz : z < 2 ^ xs.length) (hi : holdsIdeal xs z = true) {i : Nat} (hx : i < h + 1) :
    ∃ T : Nat, okTR xs [(i : Int)] (z : Int) = true ∧ ansTR xs [(i : Int)] (z : Int) = (T : Int) ∧ okTR xs [(i : Int)] (T : Int) = true ∧ ansTR xs [(i : Int)] (T : Int) = (z : Int) ∧ T < 1024 := by
  have hin : inW (rkN xs) [(i : Int)] = true := inW_one (by omega)
  have o1 := okTR_yes (ws := [(i : Int)]) (okRI_natR hg hr hz hi) (by simp) hin
  have hT : wK xs [(i : Int)] z < 2 ^ xs.length := togW_lt hz (inW_rkW hg hin)
  have hTi : holdsIdeal xs (wK xs [(i : Int)] z) = true := wK_ideal hi
  have o2 := okTR_yes (ws := [(i : Int)]) (okRI_natR hg hr hT hTi) (by simp) hin
  refine ⟨wK xs [(i : Int)] z, o1, ansTR_yes o1, o2, ?_, lt1024 hT (good_length hg).2⟩
  rw [ansTR_yes o2]; congr 1; exact rank_self hg hr (by omega) hi
/-- the ranks below i, together -/
def acR (xs : List Int) (i : Nat) : Nat := orN (fun e => decide (((heightsL xs).getD e 0).toNat < i)) (fun e => 2 ^ e) xs.length
theorem acR_bit (xs : List Int) (i e : Nat) : (acR xs i).testBit e = true ↔ e < xs.length ∧ ((heightsL xs).getD e 0).toNat < i := by
  unfold acR
  rw [orN_testBit]
  constructor
  · rintro ⟨f, hf, hp, hb⟩
    rw [Nat.testBit_two_pow] at hb
    have hfe : f = e := by simpa using hb
    subst hfe
    exact ⟨hf, by simpa using hp⟩
  · rintro ⟨h1, h2⟩
    exact ⟨e, h1, by simpa using h2, by simp⟩
theorem acR_lt (xs : List Int) (i : Nat) : acR xs i < 2 ^ xs.length := orN_lt fun e he _ => pow_lt_len (by omega)
theorem acR_zero (xs : List Int) : acR xs 0 = 0 := by
  apply Nat.eq_of_testBit_eq
  intro e
  rw [Bool.eq_iff_iff, acR_bit]
  simp
theorem acR_full {xs : List Int} {h : Nat} (hh : rkN xs = h + 1) : acR xs (h + 1) = 2 ^ xs.length - 1 := by
  apply Nat.eq_of_testBit_eq
  intro e
  rw [Bool.eq_iff_iff, acR_bit, Nat.testBit_two_pow_sub_one, decide_eq_true_eq]
  constructor
  · exact fun hx => hx.1
  · intro hx
    have := rkM_lt (heightsL xs) hx
    exact ⟨hx, by rw [← hh]; exact this⟩
/-- the ranks are apart, and make up all -/
theorem accFacts {xs : List Int} {h i : Nat} (hg : good xs = true) (hh : rkN xs = h + 1) (hx : i < h + 1) :
    ∃ R : Nat, (rankL xs).getD i 0 = (R : Int) ∧ bits .and .i64 (acR xs i : Int) (R : Int) = 0 ∧ bits .or .i64 (acR xs i : Int) (R : Int) = (acR xs (i + 1) : Int) := by
  have hl := (good_length hg).2
  have a1 := lt1024 (acR_lt xs i) hl
  have a2 := lt1024 (rkE_lt (heightsL xs) (Nat.le_refl xs.length) i) hl
  refine ⟨rkE (heightsL xs) xs.length i, rankL_get (by omega), ?_, ?_⟩
  · rw [i64_and_nat _ _ (by omega) (by omega)]
    have : acR xs i &&& rkE (heightsL xs) xs.length i = 0 := by
      apply Nat.eq_of_testBit_eq
      intro e
      rw [Bool.eq_iff_iff, Nat.testBit_and, Bool.and_eq_true, acR_bit, rkE_bit]
      simp; omega
    rw [this]; rfl
  · rw [i64_or_nat _ _ (by omega) (by omega)]
    congr 1
    apply Nat.eq_of_testBit_eq
    intro e
    rw [Bool.eq_iff_iff, Nat.testBit_or, Bool.or_eq_true, acR_bit, acR_bit, rkE_bit]
    omega
/-- each element lies in the rank of its height -/
theorem heightFacts {xs : List Int} {h e : Nat} (hg : good xs = true) (hh : rkN xs = h + 1) (he : e < xs.length) :
    ∃ k R : Nat, (heightsL xs).getD e 0 = (k : Int) ∧ k < h + 1 ∧ (rankL xs).getD k 0 = (R : Int) ∧ R < 1024 ∧ ((R : Int) / 2 ^ e).tmod 2 = 1 := by
  have h1 := rkM_lt (heightsL xs) he
  refine ⟨((heightsL xs).getD e 0).toNat, rkE (heightsL xs) xs.length ((heightsL xs).getD e 0).toNat, (heights_nat hg e).1, by rw [← hh]; exact h1, rankL_get h1,
    lt1024 (rkE_lt _ (Nat.le_refl _) _) (good_length hg).2, ?_⟩
  have := bit_tmod (rkE (heightsL xs) xs.length ((heightsL xs).getD e 0).toNat) e
  rw [(rkE_bit _ _ _ _).2 ⟨he, rfl⟩, beq_iff_eq] at this
  exact this
/-- gyration, and back -/
theorem gyrFacts {xs : List Int} {h z : Nat} (hg : good xs = true) (hr : rankedB xs = true) (hh : rkN xs = h + 1) (hz : z < 2 ^ xs.length) (hi : holdsIdeal xs z = true) :
    ∃ N K : Nat, okRI xs (z : Int) = true ∧ ansSW wGyr xs (z : Int) = (N : Int) ∧ ansGB xs (z : Int) = (K : Int) ∧ okRI xs (N : Int) = true ∧ ansGB xs (N : Int) = (z : Int) ∧ N < 1024 := by
  have hl := (good_length hg).2
  have o1 := okRI_natR hg hr hz hi
  have hw : inW xs.length (rkW (rankL xs) (wGyr h)) = true := inW_rkW hg (inW_wGyr (by omega))
  have hN : togW xs z (rkW (rankL xs) (wGyr h)) < 2 ^ xs.length := togW_lt hz hw
  have o2 := okRI_natR hg hr hN (togW_ideal hi)
  refine ⟨togW xs z (rkW (rankL xs) (wGyr h)), togW xs z (rkW (rankL xs) (wGyr h)).reverse, o1, ansSW_yes o1 hh, ansGB_yes o1 hh, o2, ?_, lt1024 hN hl⟩
  rw [ansGB_yes o2 hh, ← togW_app]
  congr 1
  exact togW_rev _ _ hi
/-- the orbits of gyration are as long as those of rowmotion -/
theorem lenFacts {xs : List Int} (hk : okRk xs = true) : ansGL xs = ansSL xs := by
  obtain ⟨hg, hr⟩ := okRk_good hk
  obtain ⟨h, hh, h9⟩ := rkN_some hg
  rw [ansGL_yes hk, ansSL_yes hg]
  have hw : inW xs.length (rkW (rankL xs) (wGyr h)) = true := inW_rkW hg (inW_wGyr (by omega))
  obtain ⟨ys, hy, hc⟩ := gyr_row hg hr
  have hall : ∀ t, idB xs t = true → ∃ j, j < (idsR xs).length ∧ ((idsR xs).getD j 0).toNat = t := by
    intro t ht
    obtain ⟨h1, h2⟩ := idB_iff.1 ht
    have hm : (t : Int) ∈ idsR xs := List.mem_map.2 ⟨t, List.mem_filter.2 ⟨List.mem_range.2 h1, h2⟩, rfl⟩
    obtain ⟨j, hj, e⟩ := List.mem_iff_getElem.1 hm
    refine ⟨j, hj, ?_⟩
    rw [show (idsR xs).getD j 0 = (idsR xs)[j] from by simp [List.getD, hj], e, Int.toNat_natCast]
  have hp := alike_lens (togMov hw) (rowMov hg) (togMov hy) (fun s hs => by
    obtain ⟨h1, h2⟩ := idB_iff.1 hs
    have e1 := hc s h2
    rw [hh, Nat.add_sub_cancel] at e1
    have e2 : wK xs (wRow h) (togW xs s ys) = rowmo xs (togW xs s ys) := rank_row hg hh (togW_lt h1 hy) (togW_ideal h2)
    rw [← e2]; exact e1) (idsR_D xs) hall
  have e1 : gyCy xs = (starts (fun s => togW xs s (rkW (rankL xs) (wGyr h))) (2 ^ xs.length) (idsR xs)).map fun s => ((per (fun s => togW xs s (rkW (rankL xs) (wGyr h))) (2 ^ xs.length) s : Nat) : Int) := by
    unfold gyCy
    rw [gyr_cycles hg hr hh]
    exact cyclesL_starts (togMov hw) (idsR_D xs)
  have e2 : lensXs xs = (starts (rowmo xs) (2 ^ xs.length) (idsR xs)).map fun s => ((per (rowmo xs) (2 ^ xs.length) s : Nat) : Int) := by
    rw [← lensXs_cyc hg]
    exact cyclesL_starts (rowMov hg) (idsR_D xs)
  refine sorted_eq (sortL_sorted _) (sortL_sorted _) (((sortL_perm _).trans ?_).trans (sortL_perm _).symm)
  rw [e1, e2]
  have := hp.map (fun n : Nat => (n : Int))
  rw [List.map_map, List.map_map] at this
  exact this
end Go.Proofs.YtdemikjaghegnaaGreat
