/- slices.Repeat of one number. -/
import Derived.Test.YtbbkoagjplapkaaTabG
import Derived.Laws.CopyOwn
import Derived.Deep.RegionLaw
namespace Go.Proofs.Ytbbkoagjplapkaa
open Go.RowKit Go.WideShapes Go.ChangeShapes
set_option linter.unusedVariables false

theorem mulR64_any (N : Nat) (w : World) (hN : N ≤ 1000) : Calls Try.prog 103 #[.int .u64 1, .int .u64 N] w fun r w' => r = .returned (.tuple #[.int .u64 0, .int .u64 N]) ∧ w = w' := by
  have h1 : bits .and .u64 (1 : Int) 4294967295 = 1 := by decide
  have h0 : bits .and .u64 (0 : Int) 4294967295 = 0 := by decide
  have h2 : bits .and .u64 (N : Int) 4294967295 = (N : Int) := by
    show IntKind.u64.wrap ((BitVec.ofInt 64 (N : Int) &&& BitVec.ofInt 64 4294967295).toNat : Int) = _
    rw [BitVec.toNat_and, ofInt_i64 N (by omega), show (BitVec.ofInt 64 4294967295).toNat = 2 ^ 32 - 1 by decide, Nat.and_two_pow_sub_one_eq_mod, Nat.mod_eq_of_lt (by omega)]
    rw [IntKind.wrap_u64]
    omega
  have h3 : (N : Int) / 4294967296 = 0 := by omega
  have h4 : (N : Int) / 2 ^ 32 = 0 := by omega
  go_enter Try.func103, Try.ntmps103
  go_wp2
  go_ret2
  exact ⟨rfl, rfl⟩
theorem mulR_any (N : Nat) (w : World) (hN : N ≤ 1000) : Calls Try.prog 98 #[.int .u64 1, .int .u64 N] w fun r w' => r = .returned (.tuple #[.int .u64 0, .int .u64 N]) ∧ w = w' := by
  go_enter Try.func98, Try.ntmps98
  go_wp2_with (go_at_call 103; refine (mulR64_any N _ hN).mono ?_; rintro e w' ⟨rfl, rfl⟩)
  go_ret2
  exact ⟨rfl, rfl⟩
theorem sizeIntR : (Try.prog.info? 3).map (·.size) = some 1 := by kernel_rfl
/-- the row while it is filled -/
def repI (x : Value) (N n : Nat) : List Value := List.replicate n x ++ List.replicate (N - n) (.int .i64 0)
theorem repI_length (x : Value) {N n : Nat} (h : n ≤ N) : (repI x N n).length = N := by simp [repI]; omega
theorem repI_splice (x : Value) {N n : Nat} (h : n ≤ N) (c : Nat) (hc : c ≤ N - n) : splice (repI x N n) n (List.replicate c x) = repI x N (n + c) := by
  have e1 : (repI x N n).take n = List.replicate n x := by simp [repI]
  have e2 : (repI x N n).drop (n + c) = List.replicate (N - (n + c)) (.int .i64 0) := by
    unfold repI
    rw [List.drop_append, List.drop_replicate, List.drop_replicate]
    simp
    omega
  unfold splice
  rw [List.length_replicate, e1, e2, ← List.append_assoc]
  unfold repI
  rw [List.replicate_append_replicate]
theorem repI_zero (x : Value) (N : Nat) : madeCells #[(.int .i64 0)] N = (repI x N 0).toArray := by
  have := toList_madeCells_one ((.int .i64 0)) N
  rw [← Array.toList_inj, this]
  simp [repI]
theorem repI_full (x : Value) (N : Nat) : repI x N N = List.replicate N x := by simp [repI]
set_option maxHeartbeats 600000 in
theorem repeatI_any (b N : Nat) (y : Int) (w : World) (hb : At w b (.int .i64 y)) (hN : N ≤ 1000) :
    Calls Try.prog 84 #[.slice (some ⟨b, 0, none⟩) 1 1, .int .i64 N] w fun (r : Ending) w' => ∃ g, r = Ending.returned (.slice (some ⟨g, 0, none⟩) N N) ∧ w.heap.size ≤ g ∧ Blk w' g 3 (Vals (List.replicate N y)) ∧ Below w.heap.size w w' := by
  have HBb := hid hb
  have hmk := run_make_row' (P := Try.prog) 27 3 (.int .i64 0) 8 Try.underlying27 Try.info3 rfl .i64 .i64 N (by omega) (by omega)
  have hM := hid (fun W => mulR_any N W hN)
  have w1 : IntKind.u64.wrap (N : Int) = (N : Int) := by rw [IntKind.wrap_u64]; omega
  have w2 : IntKind.i64.wrap (N : Int) = (N : Int) := IntWalk.i64_in _ (by omega)
  have hN0 : decide ((N : Int) < 0) = false := by simp
  have hN9 : decide ((9223372036854775807 : Int) < (N : Int)) = false := by simp; omega
  have HB0 : Hid (∀ x, (∀ P : World, P = w.alloc (.cells (madeCells #[(.int .i64 0)] N) 3) → P.heap[w.heap.size]? = some (.cells (repI x N 0).toArray 3 (0, 0)))) := hid (by rintro x P rfl; rw [← repI_zero]; exact heap_alloc_new w _)
  have HC0 : Hid ((w.alloc (.cells (madeCells #[(.int .i64 0)] N) 3)).cell? ⟨b, 0, none⟩ = some (Value.int .i64 y)) := hid (hb.alloc _).1
  have hNb : Nat.min 1 N ≤ N := Nat.min_le_right _ _
  clear hb
  obtain ⟨x, hx⟩ : ∃ x, Value.int .i64 y = x := ⟨_, rfl⟩
  have h1c : x.oneCell' = true := by rw [← hx]; rfl
  have HX := hid hx
  rw [hx] at HC0 HBb
  clear hx
  go_enter Try.func84, Try.ntmps84
  go_wp2_with (first | (go_at_call 98; refine (hM.out _).mono ?_; rintro e w' ⟨rfl, rfl⟩) | (with_reducible refine wpList_copy_splice (o := ⟨some 33, _, _, _, _, _⟩) rfl (.tmp 31) (.tmp 32) 27 27 rfl 3 Try.underlying27 sizeIntR _ _ N N 1 1 rfl rfl w.heap.size 0 (repI x N 0) 3 ?_ (List.replicate (Nat.min 1 N) x) ?_ ?_ ?_ ?_ w.heap.size w ?_ ?_ ?_))
  · exact HB0.out x _ rfl
  · simp
  · intro _ j v hj
    rw [List.getElem?_replicate] at hj
    split at hj
    · have hj0 : j = 0 := by have : Nat.min 1 N ≤ 1 := Nat.min_le_left 1 N; omega
      subst hj0
      simp only [Option.some.injEq] at hj
      subst hj
      exact HC0.out
    · cases hj
  · rw [repI_length _ (Nat.zero_le _), List.length_replicate]; omega
  · intro v hv
    rw [List.eq_of_mem_replicate hv]; exact h1c
  · exact below_alloc (Below.refl _ w) _
  · exact Nat.le_refl _
  · intro w' hG hB
    have HG : Hid (Blk w' w.heap.size 3 (repI x N (Nat.min 1 N)).toArray) := hid (by have := hG.out; rw [repI_splice x (Nat.zero_le _) _ (by omega), Nat.zero_add] at this; exact this)
    have HBw := hid hB
    try rw [List.length_replicate]
    have HMin : Hid (Nat.min 1 N = N ∨ 1 ≤ Nat.min 1 N) := hid (by rcases Nat.eq_zero_or_pos N with h | h; (left; subst h; rfl); (right; exact Nat.le_min.2 ⟨Nat.le_refl _, h⟩))
    obtain ⟨n0, hn0⟩ : ∃ n, Nat.min 1 N = n := ⟨_, rfl⟩
    rw [hn0] at HG HMin hNb ⊢
    clear hG hB hmk hM hN0 hN9 hn0 w1 w2 HB0 HC0
    go_wp2
    go_loopw [8] (fun i wr => ∃ n : Nat, n ≤ N ∧ i = .int .i64 n ∧ Hid (n = N ∨ 1 ≤ n) ∧ Blk wr w.heap.size 3 (repI x N n).toArray ∧ Below w.heap.size w wr) (fun i _ => N - (intOf i).toNat)
    case atStart => exact ⟨n0, hNb, rfl, HMin, HG.out, HBw.out⟩
    case round =>
      obtain ⟨n, hn, rfl, HP, hg, hb⟩ := hrel
      have HG1 := hid hg
      have HB1 := hid hb
      clear hg hb HG HBw HMin
      by_cases hlt : n < N
      · have hn1 : 1 ≤ n := by rcases HP.out with h | h <;> omega
        have hni : (n : Int) ≤ (N : Int) := by omega
        obtain ⟨c, hc⟩ : ∃ c, Nat.min n (N - n) = c := ⟨_, rfl⟩
        have hc1 : c ≤ n := by rw [← hc]; exact Nat.min_le_left _ _
        have hc2 : c ≤ N - n := by rw [← hc]; exact Nat.min_le_right _ _
        have hc3 : 1 ≤ c := by rw [← hc]; exact Nat.le_min.2 ⟨hn1, by omega⟩
        have HC := hid hc
        clear hc
        go_wp2_with fail
        have hni2 : (n : Int) < (N : Int) := by omega
        have hNn : ¬ N = n := by omega
        have HSrc : Hid (∀ (W : World), Blk W w.heap.size 3 (repI x N n).toArray → ∀ j v, (List.replicate c x)[j]? = some v → W.cell? ((⟨w.heap.size, 0, none⟩ : Addr).add j) = some v) := hid (by
          intro W hW j v hj
          rw [Go.WideShapes.add_plain, Nat.zero_add, hW.cell]
          rw [List.getElem?_replicate] at hj
          split at hj
          · simp only [Option.some.injEq] at hj
            subst hj
            unfold repI
            rw [List.getElem?_toArray, List.getElem?_append_left (by simp; omega), List.getElem?_replicate, if_pos (by omega)]
          · cases hj)
        have HLen : Hid (n + (List.replicate c x).length ≤ (repI x N n).length) := hid (by rw [repI_length x hn, List.length_replicate]; omega)
        have HOne : Hid (∀ v ∈ List.replicate c x, v.oneCell' = true) := hid (fun v hv => by rw [List.eq_of_mem_replicate hv]; exact h1c)
        have HCl : Hid ((List.replicate c x).length = Nat.min n (N - n)) := hid (by rw [List.length_replicate]; exact HC.out.symm)
        have HSp : Hid (splice (repI x N n) n (List.replicate c x) = repI x N (n + c)) := hid (repI_splice x hn c hc2)
        have HLc : Hid ((List.replicate c x).length = c) := hid List.length_replicate
        obtain ⟨cs, hcs⟩ : ∃ cs, List.replicate c x = cs := ⟨_, rfl⟩
        rw [hcs] at HSrc HLen HOne HCl HSp HLc
        obtain ⟨rw_, hrw⟩ : ∃ r, repI x N n = r := ⟨_, rfl⟩
        rw [hrw] at HSrc HLen HSp HG1
        clear hcs hrw
        go_region_law ((with_reducible refine step_copy_splice (o := ⟨some 45, _, _, _, _, _⟩) rfl (.tmp 41) (.tmp 44) 27 27 rfl 3 Try.underlying27 sizeIntR (some ⟨w.heap.size, n, none⟩) (some ⟨w.heap.size, 0, none⟩) (N - n) (N - n) n N ?hd ?hs w.heap.size n rw_ 3 ?h1 cs HCl.out ?h3 HLen.out HOne.out w.heap.size w ?h6 (Nat.le_refl _) ?h8); (case hd => go_simp); (case hs => go_simp); (case h1 => exact HG1.out); (case h3 => exact fun _ => ⟨rfl, _, rfl, HSrc.out _ HG1.out⟩); (case h6 => exact HB1.out.drew); intro w4 hg4 hb4)
        have HG4 : Hid (Blk w4 w.heap.size 3 (repI x N (n + c)).toArray) := hid (by have := hg4.out; rw [HSp.out] at this; exact this)
        have HB4 := hid hb4
        have hLc := HLc.out
        have hcle : n + c ≤ N := by omega
        have hw1 : IntKind.i64.wrap ((n : Int) + (c : Int)) = ((n + c : Nat) : Int) := by rw [IntWalk.i64_in _ (by omega)]; omega
        clear hg4 hb4
        try go_simp
        clear hLc hw1
        try go_wp2
        go_roundw
        case rel => exact ⟨n + c, hcle, by go_num, hid (.inr (by omega)), HG4.out, HB4.out⟩
        case measure => simp [intOf]; omega
      · obtain rfl : n = N := by omega
        go_wp2
        go_ret
        refine ⟨w.heap.size, rfl, Nat.le_refl _, ?_, HB1.out⟩
        have h := HG1.out
        rw [repI_full, ← HX.out] at h
        have e : Vals (List.replicate n y) = (List.replicate n (Value.int .i64 y)).toArray := by simp [Vals]
        rw [e]; exact h
end Go.Proofs.Ytbbkoagjplapkaa
