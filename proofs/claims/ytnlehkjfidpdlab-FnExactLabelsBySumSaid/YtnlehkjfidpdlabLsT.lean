/- totals: lists added place by place. -/
import Derived.Test.YtnlehkjfidpdlabRowsN
import Derived.Test.YtnlehkjfidpdlabHeights
namespace Go.Proofs.Ytnlehkjfidpdlab
open Go.RowKit Go.WideShapes Go.ChangeShapes
set_option linter.unusedVariables false

/-- a and b place by place, those of b up to j alone -/
def mixA (a b : List Int) (j : Nat) : List Int := (List.range (max a.length b.length)).map fun p => a.getD p 0 + if p < j then b.getD p 0 else 0
def addL (a b : List Int) : List Int := mixA a b b.length
def totL (ls : List (List Int)) : List Int := ls.foldl addL []
theorem mixA_length (a b : List Int) (j : Nat) : (mixA a b j).length = max a.length b.length := by simp [mixA]
theorem mixA_getD {a b : List Int} {j p : Nat} (h : p < max a.length b.length) : (mixA a b j).getD p 0 = a.getD p 0 + if p < j then b.getD p 0 else 0 := by simp [mixA, List.getD, h]
theorem getD_out {a : List Int} {p : Nat} (h : a.length ≤ p) : a.getD p 0 = 0 := by simp [List.getD, List.getElem?_eq_none h]
theorem list_ext0 {a b : List Int} (hl : a.length = b.length) (h : ∀ p, p < a.length → a.getD p 0 = b.getD p 0) : a = b := by
  refine List.ext_getElem hl fun j h1 h2 => ?_
  have := h j h1
  simpa [List.getD, h1, h2] using this
theorem mixA_zero (a b : List Int) : mixA a b 0 = a ++ List.replicate (max a.length b.length - a.length) 0 := by
  refine list_ext0 (by rw [mixA_length, List.length_append, List.length_replicate]; omega) fun p hp => ?_
  rw [mixA_length] at hp
  rw [mixA_getD hp, if_neg (Nat.not_lt_zero _), Int.add_zero]
  by_cases e : p < a.length
  · simp [List.getD, List.getElem?_append_left e]
  · rw [getD_out (by omega)]
    simp only [List.getD, List.getElem?_append_right (by omega : a.length ≤ p), List.getElem?_replicate]
    split <;> rfl
theorem mixA_succ {a b : List Int} {j : Nat} (hj : j < b.length) : mixA a b (j + 1) = (mixA a b j).set j ((mixA a b j).getD j 0 + b.getD j 0) := by
  refine list_ext0 (by rw [List.length_set, mixA_length, mixA_length]) fun p hp => ?_
  rw [mixA_length] at hp
  rw [mixA_getD hp]
  by_cases e : p = j
  · subst e
    rw [if_pos (by omega), mixA_getD hp, if_neg (by omega), Int.add_zero]
    simp [List.getD, mixA_length, hp]
  · have e2 : ((mixA a b j).set j ((mixA a b j).getD j 0 + b.getD j 0)).getD p 0 = (mixA a b j).getD p 0 := by
      simp only [List.getD]; rw [List.getElem?_set_ne (fun h => e h.symm)]
    rw [e2, mixA_getD hp]
    by_cases q : p < j
    · rw [if_pos (by omega), if_pos q]
    · rw [if_neg (by omega), if_neg q]
theorem totL_succ {ls : List (List Int)} {k : Nat} (hk : k < ls.length) : totL (ls.take (k + 1)) = addL (totL (ls.take k)) (ls.getD k []) := by
  have e : ls.take (k + 1) = ls.take k ++ [ls.getD k []] := by
    rw [List.take_add_one]; congr 1; simp [List.getD, hk]
  rw [e, totL, List.foldl_append]; rfl
theorem totL_small {ls : List (List Int)} {z : Nat} (h : ∀ r, r < ls.length → (ls.getD r []).length ≤ z) (k : Nat) (hk : k ≤ ls.length) : (totL (ls.take k)).length ≤ z := by
  induction k with
  | zero => simp [totL]
  | succ k ih =>
    rw [totL_succ (by omega), addL, mixA_length]
    have h1 := ih (by omega)
    have h2 := h k (by omega)
    omega
theorem OwnI.storedT {e : TypeId} {w : World} {B g n c : Nat} {xs : List Int} (h : OwnI e w B (.slice (some ⟨g, 0, none⟩) n c) xs) (j : Nat) (y : Int) : OwnI e (w.setCell ⟨g, j, none⟩ (.int .i64 y)) B (.slice (some ⟨g, 0, none⟩) n c) (xs.set j y) := by
  obtain ⟨A, c', e1, -⟩ := h.shape
  simp only [Value.slice.injEq] at e1
  obtain ⟨-, rfl, -⟩ := e1
  have h' : w.ownsRow B e 1 (.slice (some ⟨g, 0, none⟩) xs.length c) xs.length (xs.map (Value.int .i64)) := h
  have := (h'.stored j (.int .i64 y)).1
  rw [← List.map_set] at this
  unfold OwnI
  rw [List.length_set]
  exact this
theorem mix_end {a b : List Int} {j : Nat} (h1 : a.length + j ≤ max a.length b.length) (h2 : b.length ≤ a.length + j) : a ++ List.replicate j 0 = mixA a b 0 := by
  rw [mixA_zero]
  congr 2; omega
theorem mix_bound {a b : List Int} {j : Nat} (hj : j ≤ b.length) (ha : ∀ i, 0 ≤ a.getD i 0 ∧ a.getD i 0 ≤ 1000000000000000) (hb : ∀ i, 0 ≤ (addL a b).getD i 0 ∧ (addL a b).getD i 0 ≤ 1000000000000000) (i : Nat) : 0 ≤ (mixA a b j).getD i 0 ∧ (mixA a b j).getD i 0 ≤ 1000000000000000 := by
  by_cases h : i < max a.length b.length
  · rw [mixA_getD h]
    by_cases q : i < j
    · have := hb i
      rw [addL, mixA_getD h, if_pos (by omega)] at this
      rw [if_pos q]; exact this
    · rw [if_neg q, Int.add_zero]; exact ha i
  · rw [getD_out (by rw [mixA_length]; omega)]; omega
def slLen (v : Value) : Nat := match v with | .slice _ n _ => n | _ => 0
set_option maxHeartbeats 1600000 in
theorem totals_any (v : Value) (ls : List (List Int)) (z : Nat) (w : World) (hv : IntsSS w v ls) (hl : ls.length ≤ 1024) (hz : z ≤ 1024) (hL : ∀ r, r < ls.length → (ls.getD r []).length ≤ z) (hB : ∀ k, k ≤ ls.length → ∀ i, 0 ≤ (totL (ls.take k)).getD i 0 ∧ (totL (ls.take k)).getD i 0 ≤ 1000000000000000) :
    Calls Try.prog 52 #[v] w fun (e : Ending) w' => ∃ q, e = Ending.returned q ∧ OwnI 3 w' w.heap.size q (totL ls) ∧ Below w.heap.size w w' := by
  have HL := hid hL
  have HBd := hid hB
  have HTs := hid (totL_small hL)
  obtain ⟨A, c, rfl, hA⟩ := hv
  have HA := hid hA
  clear hA hL hB
  obtain ⟨N, hN⟩ : ∃ N, ls.length = N := ⟨_, rfl⟩
  have HNe := hid hN
  rw [hN] at HA HL HBd HTs hl ⊢
  clear hN
  go_enter Try.func52, Try.ntmps52
  go_wp2
  go_loopw [3, 10] (fun q i wr => ∃ k : Nat, k ≤ N ∧ i = .int .i64 k ∧ OwnI 3 wr w.heap.size q (totL (ls.take k)) ∧ Below w.heap.size w wr) (fun _ i _ => N - (intOf i).toNat)
  case atStart => exact ⟨0, Nat.zero_le _, rfl, OwnI.nil _ _ _, Below.refl _ _⟩
  case round =>
    obtain ⟨k, hk, rfl, ho, hb⟩ := hrel
    obtain ⟨W1, rfl⟩ : ∃ x, x = wr := ⟨wr, rfl⟩
    have HO := hid ho
    have HB := hid hb
    obtain ⟨oA, oc, rfl, -⟩ := ho.shape
    clear ho hb
    by_cases hlt : k < N
    · obtain ⟨bb, o, y, rfl, hbl, hc, hi⟩ := HA.out k hlt
      have hcell := (HB.out.cell (p := ⟨bb, o + k, none⟩) hbl).trans hc
      have HI := hid hi
      have hla := HTs.out k hk
      have hlb := HL.out k hlt
      have HSu := hid (totL_succ (ls := ls) (k := k) (by rw [HNe.out]; exact hlt))
      obtain ⟨a, ha⟩ : ∃ a, totL (ls.take k) = a := ⟨_, rfl⟩
      obtain ⟨b, hb⟩ : ∃ b, ls.getD k [] = b := ⟨_, rfl⟩
      have HBa := hid (HBd.out k hk)
      have HBs := hid (HBd.out (k + 1) (by omega))
      rw [HSu.out] at HBs
      rw [ha] at HO hla HSu HBa HBs ⊢
      rw [hb] at hlb HSu HI HBs
      have HBk : Hid (∀ j i, j ≤ b.length → 0 ≤ (mixA a b j).getD i 0 ∧ (mixA a b j).getD i 0 ≤ 1000000000000000) := hid (fun j i hj => mix_bound hj HBa.out HBs.out i)
      clear ha hb hc hi
      obtain ⟨yA, yc, rfl, hy⟩ := HI.out
      have HY := hid hy
      clear hy
      go_wp2
      go_loopw [3] (fun q wr => ∃ j : Nat, a.length + j ≤ max a.length b.length ∧ OwnI 3 wr w.heap.size q (a ++ List.replicate j 0) ∧ Below w.heap.size w wr) (fun q _ => b.length - slLen q)
      case atStart => exact ⟨0, by omega, by simpa using HO.out, HB.out⟩
      case round =>
        obtain ⟨j, hj, ho, hb⟩ := hrel
        have HO2 := hid ho
        have HB2 := hid hb
        obtain ⟨qA, qc, rfl, -⟩ := ho.shape
        rw [List.length_append, List.length_replicate] at HO2 ⊢
        clear ho hb
        by_cases hmore : a.length + j < b.length
        · have hmI : (a.length : Int) + (j : Int) < (b.length : Int) := by omega
          have HSn : Hid (a ++ List.replicate j 0 ++ [0] = a ++ List.replicate (j + 1) (0 : Int)) := hid (by rw [List.append_assoc, ← List.replicate_succ'])
          have hzq : w.heap.size ≤ wr.heap.size := HB2.out.size
          go_wp2_with (at_builtin; refine wpList_append_int rfl _ _ 25 3 rfl Try.underlying25 Try.info3 w.heap.size _ _ 0 rfl HO2.out rfl rfl (by rw [List.length_append, List.length_replicate]; omega) hzq ?_; intro q2 w3 ho3 hb3; rw [HSn.out] at ho3; obtain ⟨rA, rc, rfl, -⟩ := ho3.shape; rw [List.length_append, List.length_replicate] at ho3 ⊢; have HO3 := hid ho3; have HB3 := hid hb3; clear ho3 hb3)
          go_roundw
          case rel => exact ⟨j + 1, by omega, HO3.out, HB2.out.trans HB3.out⟩
          case measure => simp [slLen]; omega
        · have hmI : ¬ (a.length : Int) + (j : Int) < (b.length : Int) := by omega
          have HMx := hid (mix_end (a := a) (b := b) (j := j) hj (by omega))
          rw [HMx.out] at HO2
          obtain ⟨L, hLe⟩ : ∃ L, a.length + j = L := ⟨_, rfl⟩
          rw [hLe] at HO2 ⊢
          have HLx : Hid (max a.length b.length = L) := hid (by omega)
          obtain ⟨W2, rfl⟩ : ∃ x, x = wr := ⟨wr, rfl⟩
          go_wp2
          go_loopw [24] (fun i wr => ∃ j : Nat, j ≤ b.length ∧ i = .int .i64 j ∧ OwnI 3 wr w.heap.size (.slice qA L qc) (mixA a b j) ∧ Below w.heap.size w wr) (fun i _ => b.length - (intOf i).toNat)
          case atStart => exact ⟨0, Nat.zero_le _, rfl, HO2.out, HB2.out⟩
          case round =>
            obtain ⟨t, ht, rfl, ho, hb⟩ := hrel
            have HO3 := hid ho
            have HB3 := hid hb
            clear ho hb
            by_cases htl : t < b.length
            · obtain ⟨sA, sc, e1, hg⟩ := HO3.out.shape
              obtain ⟨g, rfl, hgl, hgB⟩ := hg (by intro h; have := congrArg List.length h; rw [mixA_length, List.length_nil] at this; omega)
              simp only [Value.slice.injEq] at e1
              obtain ⟨rfl, -, rfl⟩ := e1
              obtain ⟨by_, oy, rfl, hyl, hyc⟩ := HY.out (by intro h; simp [h] at htl)
              have hcy := (HB3.out.cell (p := ⟨by_, oy + t, none⟩) hyl).trans (hyc t htl)
              have htm : t < (mixA a b t).length := by rw [mixA_length]; omega
              have hcs : wr.cell? ⟨g, t, none⟩ = some (.int .i64 ((mixA a b t).getD t 0)) := by
                obtain ⟨A3, c3, e3, hc3⟩ := HO3.out.ints
                simp only [Value.slice.injEq] at e3
                obtain ⟨b3, o3, e4, -, hc4⟩ := hc3 (by intro h; rw [h] at htm; simp at htm)
                rw [← e3.1] at e4
                simp only [Option.some.injEq, Addr.mk.injEq, and_true] at e4
                obtain ⟨rfl, rfl⟩ := e4
                have := hc4 t htm
                rwa [Nat.zero_add] at this
              have hfz : wr.frozen? ⟨g, t, none⟩ = false := by
                have h := HO3.out
                unfold OwnI at h
                rw [mixA_length, HLx.out] at h
                exact h.frozenAt t
              have h1 := HBk.out t t ht
              have h2 := HBk.out (t + 1) t (by omega)
              have hS := mixA_succ (a := a) (b := b) (j := t) htl
              have h3 : (mixA a b (t + 1)).getD t 0 = (mixA a b t).getD t 0 + b.getD t 0 := by
                rw [hS]; simp only [List.getD]; rw [List.getElem?_set_self htm]; rfl
              rw [h3] at h2
              obtain ⟨x1, hx1⟩ : ∃ x, (mixA a b t).getD t 0 = x := ⟨_, rfl⟩
              obtain ⟨x2, hx2⟩ : ∃ x, b.getD t 0 = x := ⟨_, rfl⟩
              rw [hx1, hx2] at hS h2
              rw [hx1] at hcs
              rw [hx2] at hcy
              have HS := hid hS
              have hwr : IntKind.i64.wrap (x1 + x2) = x1 + x2 := IntWalk.i64_in _ (by omega)
              have htL : t < L := by have := HLx.out; omega
              clear hS h3 hx1 hx2 hyc
              go_wp2
              clear hwr
              go_roundw
              case rel => exact ⟨t + 1, by omega, by go_num, by rw [HS.out]; exact HO3.out.storedT t _, HB3.out.setCell (p := ⟨g, t, none⟩) hgB _⟩
              case measure => simp [intOf]; omega
            · have htb : t = b.length := by omega
              have HE : Hid (mixA a b t = addL a b) := hid (by rw [htb]; rfl)
              rw [HE.out, ← HSu.out] at HO3
              have HO4 := hid HO3.out
              clear htb
              go_wp2
              go_roundw
              case rel => exact ⟨k + 1, by omega, by go_num, HO4.out, HB3.out⟩
              case measure => simp [intOf]; omega
    · have hkN : k = N := by omega
      have HT : Hid (totL (ls.take k) = totL ls) := hid (by rw [List.take_of_length_le (by rw [HNe.out]; omega)])
      rw [HT.out] at HO ⊢
      go_wp2
      go_ret
      exact ⟨_, rfl, HO.out, HB.out⟩
end Go.Proofs.Ytnlehkjfidpdlab
