/- Lists with one toggle after the other: toggles at places, promotion, evacuation, as maps of lists. No program is named here. -/
import Derived.Test.YtclhebpkpmholaaOrder
namespace Go.Proofs.Ytclhebpkpmholaa
set_option linter.unusedVariables false

def swapL (ws : List Int) (i : Nat) : List Int := (ws.set i (ws.getD (i + 1) 0)).set (i + 1) (ws.getD i 0)
def togL (xs ws : List Int) (i : Nat) : List Int := if (row xs (ws.getD (i + 1) 0).toNat).testBit (ws.getD i 0).toNat = true then ws else swapL ws i
theorem getD_set_ (ws : List Int) (i j : Nat) (x : Int) : (ws.set i x).getD j 0 = if i = j ∧ i < ws.length then x else ws.getD j 0 := by
  rw [List.getD_eq_getElem?_getD, List.getElem?_set, List.getD_eq_getElem?_getD]
  by_cases h : i = j
  · subst h
    by_cases h2 : i < ws.length
    · simp [h2]
    · simp [h2]
  · simp [h]
/-- a list of n numbers from 0 to n - 1 -/
structure Lw (n : Nat) (ws : List Int) : Prop where
  len : ws.length = n
  ins : inW n ws = true
theorem Lw.at {n : Nat} {ws : List Int} (h : Lw n ws) {j : Nat} (hj : j < n) : 0 ≤ ws.getD j 0 ∧ ws.getD j 0 < n := inW_at h.ins (by rw [h.len]; exact hj)
theorem swapL_length (ws : List Int) (i : Nat) : (swapL ws i).length = ws.length := by simp [swapL]
theorem swapL_getD (ws : List Int) (i j : Nat) (hi : i + 1 < ws.length) : (swapL ws i).getD j 0 = if j = i then ws.getD (i + 1) 0 else if j = i + 1 then ws.getD i 0 else ws.getD j 0 := by
  unfold swapL
  rw [getD_set_, getD_set_, List.length_set]
  by_cases h1 : j = i
  · subst h1
    rw [if_neg (by omega), if_pos ⟨rfl, by omega⟩, if_pos rfl]
  · rw [if_neg h1]
    by_cases h2 : j = i + 1
    · subst h2; rw [if_pos ⟨rfl, by omega⟩, if_pos rfl]
    · rw [if_neg (by omega), if_neg (by omega), if_neg h2]
theorem Lw.swap {n : Nat} {ws : List Int} (h : Lw n ws) {i : Nat} (hi : i + 1 < n) : Lw n (swapL ws i) := by
  refine ⟨by rw [swapL_length]; exact h.len, inW_of fun j hj => ?_⟩
  rw [swapL_length, h.len] at hj
  rw [swapL_getD ws i j (by rw [h.len]; exact hi)]
  split
  · exact h.at hi
  · split
    · exact h.at (by omega)
    · exact h.at hj
theorem Lw.tog {n : Nat} {xs ws : List Int} (h : Lw n ws) {i : Nat} (hi : i + 1 < n) : Lw n (togL xs ws i) := by
  unfold togL
  split
  · exact h
  · exact h.swap hi
theorem togL_yes {xs ws : List Int} {i : Nat} (h : (row xs (ws.getD (i + 1) 0).toNat).testBit (ws.getD i 0).toNat = true) : togL xs ws i = ws := if_pos h
theorem togL_no {xs ws : List Int} {i : Nat} (h : (row xs (ws.getD (i + 1) 0).toNat).testBit (ws.getD i 0).toNat = false) : togL xs ws i = swapL ws i := by unfold togL; rw [if_neg (by rw [h]; decide)]
theorem togL_length (xs ws : List Int) (i : Nat) : (togL xs ws i).length = ws.length := by
  unfold togL; split
  · rfl
  · exact swapL_length ws i

def turnN (F : Nat → List Int → List Int) : Nat → List Int → List Int
  | 0, ws => ws
  | k + 1, ws => F k (turnN F k ws)
theorem turnN_congr {F G : Nat → List Int → List Int} {m : Nat} (h : ∀ k, k < m → F k = G k) (ws : List Int) : turnN F m ws = turnN G m ws := by
  induction m with
  | zero => rfl
  | succ m ih => simp only [turnN]; rw [ih (fun k hk => h k (by omega)), h m (by omega)]
theorem Lw.turn {n : Nat} {F : Nat → List Int → List Int} {m : Nat} (hF : ∀ k, k < m → ∀ ws, Lw n ws → Lw n (F k ws)) {ws : List Int} (h : Lw n ws) : Lw n (turnN F m ws) := by
  induction m with
  | zero => exact h
  | succ m ih => exact hF m (by omega) _ (ih fun k hk => hF k (by omega))
/-- toggles at 0, 1, .., k - 1 -/
def upL (xs : List Int) (k : Nat) (ws : List Int) : List Int := turnN (fun i a => togL xs a i) k ws
/-- toggles at t - 1, t - 2, .., t - k -/
def downL (xs : List Int) (t k : Nat) (ws : List Int) : List Int := turnN (fun i a => togL xs a (t - 1 - i)) k ws
theorem upL_succ (xs : List Int) (k : Nat) (ws : List Int) : upL xs (k + 1) ws = togL xs (upL xs k ws) k := rfl
theorem downL_succ (xs : List Int) (t k : Nat) (ws : List Int) : downL xs t (k + 1) ws = togL xs (downL xs t k ws) (t - 1 - k) := rfl
theorem Lw.up {n : Nat} {xs : List Int} {k : Nat} (hk : k + 1 ≤ n) {ws : List Int} (h : Lw n ws) : Lw n (upL xs k ws) := h.turn fun i hi a ha => ha.tog (by omega)
theorem Lw.down {n : Nat} {xs : List Int} {t k : Nat} (ht : t + 1 ≤ n) (hk : k ≤ t) {ws : List Int} (h : Lw n ws) : Lw n (downL xs t k ws) := h.turn fun i hi a ha => ha.tog (by omega)
/-- one promotion, and one backwards -/
def pro1 (xs ws : List Int) : List Int := upL xs (xs.length - 1) ws
def orp1 (xs ws : List Int) : List Int := downL xs (xs.length - 1) (xs.length - 1) ws
def proL (xs : List Int) (t : Int) (ws : List Int) : List Int := if t < 0 then turnN (fun _ => orp1 xs) (-t).toNat ws else turnN (fun _ => pro1 xs) t.toNat ws
theorem proL_neg {xs : List Int} {t : Int} (h : t < 0) (ws : List Int) : proL xs t ws = turnN (fun _ => orp1 xs) (-t).toNat ws := if_pos h
theorem proL_nat (xs : List Int) (t : Nat) (ws : List Int) : proL xs t ws = turnN (fun _ => pro1 xs) t ws := by unfold proL; rw [if_neg (by omega)]; rfl
theorem proL_one (xs ws : List Int) : proL xs 1 ws = pro1 xs ws := proL_nat xs 1 ws
def evaL (xs ws : List Int) : List Int := turnN (fun k => upL xs (xs.length - 1 - k)) (xs.length - 1) ws
def coeL (xs ws : List Int) : List Int := turnN (fun k => downL xs (xs.length - 1) (xs.length - 1 - k)) (xs.length - 1) ws
theorem Lw.pro1 {xs : List Int} (h1 : 1 ≤ xs.length) {ws : List Int} (h : Lw xs.length ws) : Lw xs.length (pro1 xs ws) := h.up (by omega)
theorem Lw.orp1 {xs : List Int} (h1 : 1 ≤ xs.length) {ws : List Int} (h : Lw xs.length ws) : Lw xs.length (orp1 xs ws) := h.down (by omega) (Nat.le_refl _)
theorem Lw.pro {xs : List Int} (h1 : 1 ≤ xs.length) {ws : List Int} (t : Int) (h : Lw xs.length ws) : Lw xs.length (proL xs t ws) := by
  unfold proL
  split
  · exact h.turn fun _ _ a ha => ha.orp1 h1
  · exact h.turn fun _ _ a ha => ha.pro1 h1
theorem Lw.eva {xs : List Int} (h1 : 1 ≤ xs.length) {ws : List Int} (h : Lw xs.length ws) : Lw xs.length (evaL xs ws) := h.turn fun k hk a ha => ha.up (by omega)
theorem Lw.coe {xs : List Int} (h1 : 1 ≤ xs.length) {ws : List Int} (h : Lw xs.length ws) : Lw xs.length (coeL xs ws) := h.turn fun k hk a ha => ha.down (by omega) (by omega)
theorem orderB_Lw {xs ys : List Int} (h : orderB xs ys = true) : Lw xs.length ys := ⟨(orderB_word h).1, (orderB_word h).2⟩

/-- a list that is one of a poset's linear extensions -/
def okLin (xs ws : List Int) : Bool := okOrder xs ws
theorem okLin_all {xs ws : List Int} (h : okLin xs ws = true) : good xs = true ∧ orderB xs ws = true := by
  simpa [okLin, okOrder] using h
theorem okLin_Lw {xs ws : List Int} (h : okLin xs ws = true) : Lw xs.length ws := orderB_Lw (okLin_all h).2
end Go.Proofs.Ytclhebpkpmholaa
