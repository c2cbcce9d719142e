/- Gyration: the mathematics. -/
import Derived.Test.YtkalpichninncabRvW
namespace Go.Proofs.Ytkalpichninncab
open Go.RowKit Go.WideShapes Go.ChangeShapes
set_option linter.unusedVariables false

/-- all elements of the first k ranks that are even (p = 0) or odd (p = 1) -/
def evK (xs : List Int) (p k : Nat) : Nat := orN (fun i => i % 2 == p) (fun i => rkE (heightsL xs) xs.length i) k
def evN (xs : List Int) (p : Nat) : Nat := evK xs p (rkN xs)
theorem evK_lt (xs : List Int) (p k : Nat) : evK xs p k < 2 ^ xs.length := orN_lt fun i _ _ => rkE_lt _ (Nat.le_refl _) i
theorem evK_yes {xs : List Int} {p k : Nat} (h : k % 2 = p) : evK xs p (k + 1) = evK xs p k ||| rkE (heightsL xs) xs.length k := orN_yes (p := fun i => i % 2 == p) (by simpa using h)
theorem evK_no {xs : List Int} {p k : Nat} (h : ¬ k % 2 = p) : evK xs p (k + 1) = evK xs p k := orN_no (p := fun i => i % 2 == p) (by simpa using h)
theorem evN_mem {xs : List Int} {p : Nat} (e : Int) : e ∈ elL xs.length (evN xs p) ↔ ∃ f : Nat, e = f ∧ f < xs.length ∧ ((heightsL xs).getD f 0).toNat % 2 = p := by
  unfold elL
  rw [List.mem_map]
  constructor
  · rintro ⟨f, hf, rfl⟩
    rw [elN_mem] at hf
    unfold evN evK at hf
    rw [orN_testBit] at hf
    obtain ⟨h1, i, h2, h3, h4⟩ := hf
    rw [rkE_bit] at h4
    exact ⟨f, rfl, h1, by rw [h4.2]; simpa using h3⟩
  · rintro ⟨f, rfl, h1, h2⟩
    refine ⟨f, ?_, rfl⟩
    rw [elN_mem]
    unfold evN evK
    rw [orN_testBit]
    exact ⟨h1, _, rkM_lt _ h1, by simpa using h2, by rw [rkE_bit]; exact ⟨h1, rfl⟩⟩
theorem rkW_mem {xs : List Int} {ws : List Int} (hw : inW (rkN xs) ws = true) (e : Int) : e ∈ rkW (rankL xs) ws ↔ ∃ f : Nat, e = f ∧ f < xs.length ∧ f < 10 ∧ (((heightsL xs).getD f 0).toNat : Int) ∈ ws := by
  rw [rkW, List.mem_flatMap]
  constructor
  · rintro ⟨i, hi, he⟩
    have hi2 := List.all_eq_true.1 hw i hi
    simp only [Bool.and_eq_true, decide_eq_true_eq] at hi2
    obtain ⟨f, h1, h2, h3, h4⟩ := (rank_mem (show i.toNat < rkN xs by omega) e).1 he
    exact ⟨f, h1, h2, h3, by rw [h4, Int.toNat_of_nonneg hi2.1]; exact hi⟩
  · rintro ⟨f, h1, h2, h3, h4⟩
    exact ⟨_, h4, by rw [Int.toNat_natCast]; exact (rank_mem (rkM_lt _ h2) e).2 ⟨f, h1, h2, h3, rfl⟩⟩
theorem elL_nodup (n r : Nat) : (elL n r).Nodup := by
  unfold elL
  refine List.Pairwise.map _ (fun a b h hab => h (Int.ofNat.inj hab)) (elN_nodup n r)
theorem rkW_nodup {xs : List Int} : ∀ ws : List Int, inW (rkN xs) ws = true → ws.Nodup → (rkW (rankL xs) ws).Nodup
  | [], _, _ => List.nodup_nil
  | a :: t, hw, hn => by
    have h1 : inW (rkN xs) t = true := List.all_eq_true.2 fun y hy => List.all_eq_true.1 hw y (List.mem_cons_of_mem _ hy)
    have h2 := List.all_eq_true.1 hw a (by simp)
    simp only [Bool.and_eq_true, decide_eq_true_eq] at h2
    rw [List.nodup_cons] at hn
    show (elL 10 _ ++ rkW (rankL xs) t).Nodup
    rw [List.nodup_append]
    refine ⟨elL_nodup _ _, rkW_nodup t h1 hn.2, fun x hx y hy hxy => ?_⟩
    subst hxy
    obtain ⟨f, e1, _, _, e4⟩ := (rank_mem (show a.toNat < rkN xs by omega) x).1 hx
    obtain ⟨g, d1, _, _, d4⟩ := (rkW_mem h1 x).1 hy
    have : f = g := by omega
    subst this
    rw [e4, Int.toNat_of_nonneg h2.1] at d4
    exact hn.1 d4
theorem rs2_mem {a b : Nat} (y : Int) : y ∈ rs2 a b ↔ ∃ i : Nat, y = i ∧ a ≤ i ∧ i ≤ b ∧ i % 2 = a % 2 := by
  unfold rs2
  rw [List.mem_map]
  constructor
  · rintro ⟨j, hj, rfl⟩
    rw [List.mem_range] at hj
    exact ⟨a + 2 * j, rfl, by omega, by omega, by omega⟩
  · rintro ⟨i, rfl, h1, h2, h3⟩
    exact ⟨(i - a) / 2, List.mem_range.2 (by omega), by congr 1; omega⟩
theorem rs2_nodup (a b : Nat) : (rs2 a b).Nodup := by
  unfold rs2
  refine List.Pairwise.map _ (fun x y h hab => h (by omega)) List.nodup_range
theorem height_lt {xs : List Int} {f : Nat} (h : f < xs.length) : ((heightsL xs).getD f 0).toNat < rkN xs := rkM_lt _ h
theorem gyr_perm {xs : List Int} (hg : good xs = true) {p h : Nat} (hp : p ≤ 1) (hh : rkN xs = h + 1) : (elL xs.length (evN xs p)).Perm (rkW (rankL xs) (rs2 p h)) := by
  have hl := (good_length hg).2
  refine (List.perm_ext_iff_of_nodup (elL_nodup _ _) (rkW_nodup _ (inW_rs2 (by omega)) (rs2_nodup _ _))).2 fun e => ?_
  rw [evN_mem, rkW_mem (inW_rs2 (by omega))]
  constructor
  · rintro ⟨f, h1, h2, h3⟩
    have := height_lt h2
    exact ⟨f, h1, h2, by omega, (rs2_mem _).2 ⟨_, rfl, by omega, by omega, by omega⟩⟩
  · rintro ⟨f, h1, h2, _, h3⟩
    obtain ⟨i, e1, e2, e3, e4⟩ := (rs2_mem _).1 h3
    exact ⟨f, h1, h2, by omega⟩
theorem ev_in {xs : List Int} (p : Nat) : inW xs.length (elL xs.length (evN xs p)) = true := List.all_eq_true.2 fun y hy => by
  obtain ⟨f, rfl, h, _⟩ := (evN_mem y).1 hy
  simp; omega
theorem ev_apart {xs : List Int} (hg : good xs = true) (hr : rankedB xs = true) (p : Nat) : ∀ d ∈ elL xs.length (evN xs p), ∀ e ∈ elL xs.length (evN xs p), Apart xs d.toNat e.toNat := by
  intro d hd e he
  obtain ⟨f, rfl, h1, h2⟩ := (evN_mem d).1 hd
  obtain ⟨g, rfl, h3, h4⟩ := (evN_mem e).1 he
  rw [Int.toNat_natCast, Int.toNat_natCast]
  exact apart_rank hg hr h1 h3 (by omega)
/-- gyration, and back -/
def gyF (xs : List Int) (s : Nat) : Nat := togW xs (togW xs s (elL xs.length (evN xs 0))) (elL xs.length (evN xs 1))
def gyB (xs : List Int) (s : Nat) : Nat := togW xs (togW xs s (elL xs.length (evN xs 1))) (elL xs.length (evN xs 0))
theorem gyF_word {xs : List Int} (hg : good xs = true) (hr : rankedB xs = true) {h : Nat} (hh : rkN xs = h + 1) {s : Nat} (hs : holdsIdeal xs s = true) :
    gyF xs s = togW xs s (rkW (rankL xs) (wGyr h)) := by
  unfold gyF
  rw [wGyr_eq, rkW_append, togW_app, togW_perm hg (gyr_perm hg (p := 0) (by omega) hh) (ev_in 0) (ev_apart hg hr 0) s hs,
    togW_perm hg (gyr_perm hg (p := 1) (by omega) hh) (ev_in 1) (ev_apart hg hr 1) _ (togW_ideal hs)]
theorem gyB_word {xs : List Int} (hg : good xs = true) (hr : rankedB xs = true) {h : Nat} (hh : rkN xs = h + 1) {s : Nat} (hs : holdsIdeal xs s = true) :
    gyB xs s = togW xs s (rkW (rankL xs) (wGyr h)).reverse := by
  unfold gyB
  rw [wGyr_eq, rkW_append, List.reverse_append, togW_app,
    togW_perm hg ((gyr_perm hg (p := 1) (by omega) hh).trans (List.reverse_perm _).symm) (ev_in 1) (ev_apart hg hr 1) s hs,
    togW_perm hg ((gyr_perm hg (p := 0) (by omega) hh).trans (List.reverse_perm _).symm) (ev_in 0) (ev_apart hg hr 0) _ (togW_ideal hs)]
end Go.Proofs.Ytkalpichninncab
