/- Toggles in turn: closures that do other closures one after the other; a list behind a closure. -/
import Derived.Test.YtiodligebnnodabSwp
namespace Go.Proofs.Ytiodligebnnodab
open Go.RowKit Go.WideShapes Go.ChangeShapes
set_option linter.unusedVariables false

set_option maxHeartbeats 1600000 in
theorem inTurnC_any (u : Value) (xs : List Int) (a : Nat) (W : World) (S : Nat → Prop) (F : Nat → List Int → List Int) (m : Nat) (hu : LstG xs S W u F m) (ha : At W a u) (hm : m ≤ 1000)
    (hSl : ∀ k, S k → k < W.heap.size) (hSa : S a) (hF : ∀ k, k < m → ∀ ws, Lw xs.length ws → Lw xs.length (F k ws)) : SwapG 68 #[PA a] xs S W (turnN F m) := by
  refine ⟨Go.Proofs.enters_of Try.func68 (by kernel_rfl) rfl, hSl, ?_⟩
  intro w sl ws hb ho hd hw
  show Calls Try.prog 68 #[sl, .pointer (some ⟨a, 0, none⟩)] w fun r w' => r = .returned (.tuple #[]) ∧ OwnI 3 w' 0 sl (turnN F m ws) ∧ w.grownBy w' sl.ownBlock
  have hba := (World.cell?_of_block (a := ⟨a, 0, none⟩) (hb a hSa)).trans ha.1
  obtain ⟨A, c, rfl, hj⟩ := hu
  have HJ := hid hj
  have HB := hid hb
  have HD := hid hd
  have HO := hid ho
  have HW := hid hw
  have HF := hid hF
  have HSL := hid hSl
  have HSz : Hid (∀ k, S k → k < w.heap.size) := hid fun k hk => by
    have h1 := hb k hk
    have h2 := hSl k hk
    rcases Nat.lt_or_ge k w.heap.size with h | h
    · exact h
    · rw [Array.getElem?_eq_none h, Array.getElem?_eq_getElem h2] at h1; cases h1
  obtain ⟨qA, qn, qc, rfl⟩ := ho.shape3
  clear hj hb hd ho hw hF hSl hSa ha
  go_enter Try.func68, Try.ntmps68
  go_wp2
  clear hba
  go_loopw [7] (fun i wr => ∃ k : Nat, k ≤ m ∧ i = .int .i64 k ∧ OwnI 3 wr 0 (.slice qA qn qc) (turnN F k ws) ∧ w.grownBy wr (Value.slice qA qn qc).ownBlock) (fun i _ => m - (intOf i).toNat)
  case atStart => exact ⟨0, Nat.zero_le _, rfl, HO.out, World.grownBy.refl _ _⟩
  case round =>
    obtain ⟨k, hk, rfl, ho, hg⟩ := hrel
    have HO1 := hid ho
    have HG1 := hid hg
    clear ho hg
    by_cases hlt : k < m
    · obtain ⟨b, o, fn, caps, rfl, hSb, hc, hS⟩ := HJ.out k hlt
      have hkp : ∀ k', S k' → wr.heap[k']? = W.heap[k']? := fun k' hk' => (HG1.out.block k' (HSz.out k' hk') (fun e => HD.out k' e.symm hk')).trans (HB.out k' hk')
      have hcell : wr.cell? ⟨b, o + k, none⟩ = some (.func (.func fn) #[] caps) := (World.cell?_of_block (a := ⟨b, o + k, none⟩) (hkp b hSb)).trans hc
      have eg := hS.ent
      have HR := hid (hS.run wr _ _ hkp HO1.out HD.out (HW.out.turn (m := k) fun j hj => HF.out j (by omega)))
      clear hS hc hkp hSb
      go_wp2_with (go_at_fn fn; refine HR.out.mono ?_; rintro e w2 ⟨rfl, ho2, hg2⟩)
      go_roundw
      case rel => exact ⟨k + 1, by omega, by go_num, ho2, grown_trans HG1.out hg2⟩
      case measure => simp [intOf]; omega
    · obtain rfl : k = m := by omega
      go_wp2
      go_end0
      exact ⟨rfl, HO1.out, HG1.out⟩
theorem LstG.to {xs : List Int} {S S' : Nat → Prop} {w w' : World} {u : Value} {F : Nat → List Int → List Int} {m : Nat} (h : LstG xs S w u F m) (hb : Below w.heap.size w w') (hS : ∀ k, S k → S' k) (hl : ∀ k, S k → k < w.heap.size) (hlt : ∀ k, S' k → k < w'.heap.size) : LstG xs S' w' u F m := by
  obtain ⟨A, c, rfl, h⟩ := h
  refine ⟨A, c, rfl, fun j hj => ?_⟩
  obtain ⟨b, o, fn, caps, h1, h2, h3, h4⟩ := h j hj
  exact ⟨b, o, fn, caps, h1, hS b h2, (hb.cell (p := ⟨b, o + j, none⟩) (hl b h2)).trans h3, (h4.below hb).mono hS hlt⟩
theorem FP.lt {B : Nat} {v : Value} {w : World} (hv : ∀ k, v.ownBlock = some k → k < w.heap.size) (k : Nat) (h : FP B v w k) : k < w.heap.size := by
  rcases h with h | h
  · exact h.2
  · exact hv k h
theorem FP.to {B : Nat} {v : Value} {w w' : World} (hs : w.heap.size ≤ w'.heap.size) (k : Nat) (h : FP B v w k) : FP B v w' k := by
  rcases h with h | h
  · exact .inl ⟨h.1, by omega⟩
  · exact .inr h
theorem FP.base {B B' : Nat} {v : Value} {w : World} (hB : B ≤ B') (k : Nat) (h : FP B' v w k) : FP B v w k := by
  rcases h with h | h
  · exact .inl ⟨by omega, h.2⟩
  · exact .inr h
theorem SwapG.base {fn : Nat} {caps : Array Value} {xs : List Int} {B B' : Nat} {v : Value} {w : World} {f : List Int → List Int} (h : SwapG fn caps xs (FP B' v w) w f) (hB : B ≤ B') (hv : ∀ k, v.ownBlock = some k → k < w.heap.size) : SwapG fn caps xs (FP B v w) w f :=
  h.mono (FP.base hB) (FP.lt hv)
theorem At.keep {w w' : World} {b B : Nat} {v : Value} (h : At w b v) (hb : Below B w w') (hB : b < B) : At w' b v :=
  ⟨(hb.cell (p := ⟨b, 0, none⟩) hB).trans h.1, Nat.lt_of_lt_of_le h.2 hb.size⟩
theorem ints_block {w : World} {v : Value} {xs : List Int} (hv : Ints w v xs) (hg : good xs = true) (k : Nat) (hk : v.ownBlock = some k) : k < w.heap.size := by
  obtain ⟨A, c, rfl, h⟩ := hv
  obtain ⟨b, o, rfl, hb, -⟩ := h (by have := (good_length hg).1; intro e; rw [e] at this; simp at this)
  simp only [Value.ownBlock, Option.some.injEq] at hk
  omega
theorem inTurn_any (u v : Value) (xs : List Int) (B : Nat) (F : Nat → List Int → List Int) (m : Nat) (w : World) (hu : LstG xs (FP B v w) w u F m) (hB : B ≤ w.heap.size) (hv : ∀ k, v.ownBlock = some k → k < w.heap.size) (hm : m ≤ 1000)
    (hF : ∀ k, k < m → ∀ ws, Lw xs.length ws → Lw xs.length (F k ws)) :
    Calls Try.prog 54 #[u] w fun (r : Ending) w' => ∃ fn caps, r = Ending.returned (.func (.func fn) #[] caps) ∧ SwapG fn caps xs (FP B v w') w' (turnN F m) ∧ Below w.heap.size w w' := by
  have hmf : ∀ (fn : Fn) (first cap : Array Value) (w : World), (Instr.makeFunc fn first cap).run Try.prog w = .ok (.func fn first cap) w := fun _ _ _ _ => rfl
  obtain ⟨W, hW⟩ : ∃ W, w.alloc (.cells #[u] 67) = W := ⟨_, rfl⟩
  have hbW : Below w.heap.size w W := by subst hW; exact below_alloc (Below.refl _ w) _
  have hzW : W.heap.size = w.heap.size + 1 := by subst hW; simp
  have hAt : At W w.heap.size u := by subst hW; exact At.new _ _ _
  have hvW : ∀ k, v.ownBlock = some k → k < W.heap.size := fun k hk => by have := hv k hk; omega
  have HS := hid (inTurnC_any u xs w.heap.size W (FP B v W) F m (hu.to hbW (FP.to hbW.size) (FP.lt hv) (FP.lt hvW)) hAt hm (FP.lt hvW) (.inl ⟨hB, by omega⟩) hF)
  have HB := hid hbW
  have HW := hid hW
  obtain ⟨uA, uc, rfl, -⟩ := hu
  clear hbW hzW hAt hvW hW hF hv
  go_enter Try.func54, Try.ntmps54
  go_wp2
  go_ret
  rw [HW.out]
  exact ⟨68, #[PA w.heap.size], rfl, HS.out, HB.out⟩
theorem infoSwap : (Try.prog.info? 53).map (fun i => (i.zero, i.size, i.bytes)) = some (some .nilFunc, 1, 8) := by kernel_rfl
set_option maxHeartbeats 1600000 in
theorem swapsUp_any (v : Value) (xs : List Int) (K : Nat) (w : World) (hv : Ints w v xs) (hg : good xs = true) (hK : K + 1 ≤ xs.length) :
    Calls Try.prog 57 #[.agg #[v], .int .i64 ((K : Int) - 1)] w fun (r : Ending) w' => ∃ fn caps, r = Ending.returned (.func (.func fn) #[] caps) ∧ SwapG fn caps xs (FP w.heap.size v w') w' (upL xs K) ∧ Below w.heap.size w w' := by
  have HV := hid hv
  have HG := hid hg
  have hl10 := (good_length hg).2
  have HVB := hid (ints_block hv hg)
  have HK := hid hK
  have hK9 : K ≤ 9 := by omega
  clear hv hg hK
  go_enter Try.func57, Try.ntmps57
  have HB := hid (below_alloc (Below.refl _ w) (.cells #[v] 28))
  have A0 := hid (At.newAt w v 28 w.heap.size (by simp))
  go_wp2
  go_loopw [5, 6] (fun u i wr => ∃ k : Nat, k ≤ K ∧ i = .int .i64 k ∧ OwnG 53 xs v (w.heap.size + 1) wr u (fun i a => togL xs a i) k ∧ Below w.heap.size w wr ∧ At wr w.heap.size v) (fun _ i _ => K - (intOf i).toNat)
  case atStart => exact ⟨0, Nat.zero_le _, rfl, OwnG.nil _ _ _ _ _ _, HB.out, A0.out⟩
  case round =>
    obtain ⟨k, hk, rfl, ho, hb, ha⟩ := hrel
    have HO := hid ho
    have HB1 := hid hb
    have HA1 := hid ha
    obtain ⟨uA, uc, rfl⟩ := ho.shape
    have hbx := ha.1
    have hz : w.heap.size + 1 ≤ wr.heap.size := ha.2
    clear ho hb ha
    by_cases hlt : k < K
    · go_wp2_with fail
      clear hbx
      refine (swapAt_any v xs k _ (HV.out.below HB1.out) HG.out (by have := HK.out; omega)).mono ?_
      rintro e w2 ⟨fn, caps, rfl, hS, hb2⟩
      have HS := hid hS
      have HO2 := hid (HO.out.below hb2)
      have HB2 := hid (below_to HB1.out hb2)
      have HA2 := hid (HA1.out.below hb2)
      have hz2 : w.heap.size + 1 ≤ w2.heap.size := HA2.out.2
      have HFP : Hid (∀ k', FP wr.heap.size v w2 k' → (w.heap.size + 1 ≤ k' ∨ v.ownBlock = some k') ∧ (Value.slice uA k uc).ownBlock ≠ some k') := hid (by
        obtain ⟨us, h1, h2, h3⟩ := HO.out
        rintro k' (h | h)
        · refine ⟨.inl (by omega), fun e => ?_⟩
          have := h2.lt k' e
          omega
        · refine ⟨.inr h, fun e => ?_⟩
          have := h2.lt k' e
          have := HVB.out k' h
          omega)
      clear hS hb2
      go_wp2_with (at_builtin; refine wpList_append_sw rfl _ _ 67 53 rfl Try.underlying67 infoSwap xs v (w.heap.size + 1) _ (fun i a => togL xs a i) k fn caps _ rfl HO2.out HS.out HFP.out rfl rfl (by omega) hz2 ?_; rintro u3 w3 ho3 hb3)
      go_roundw
      case rel => exact ⟨k + 1, by omega, by go_num, ho3, HB2.out.trans (hb3.mono (by omega)), HA2.out.keep hb3 (by omega)⟩
      case measure => simp [intOf]; omega
    · obtain rfl : k = K := by omega
      have hvB : ∀ k', v.ownBlock = some k' → k' < wr.heap.size := fun k' h => by have := HVB.out k' h; omega
      have HL := hid (HO.out.lst hvB)
      have HvB := hid hvB
      clear hbx hvB
      go_wp2_with fail
      refine (inTurn_any _ v xs (w.heap.size + 1) _ k _ HL.out hz HvB.out (by omega) (fun j hj a ha => ha.tog (by have := HK.out; omega))).mono ?_
      rintro e w2 ⟨fn, caps, rfl, hS, hb2⟩
      have HS := hid (hS.base (Nat.le_succ w.heap.size) (fun k' h => Nat.lt_of_lt_of_le (HvB.out k' h) hb2.size))
      have HB2 := hid (below_to HB1.out hb2)
      clear hS hb2
      go_wp2
      go_ret
      exact ⟨fn, caps, rfl, HS.out, HB2.out⟩
end Go.Proofs.Ytiodligebnnodab
