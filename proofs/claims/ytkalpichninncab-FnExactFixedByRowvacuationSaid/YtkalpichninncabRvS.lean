/- Ranks in the model: ranks, toggles of ranks, words of ranks. -/
import Derived.Test.YtkalpichninncabRvM
import Derived.Test.YtkalpichninncabTg
import Derived.RegionTactic
import Derived.Deep.AppendLies
namespace Go.Proofs.Ytkalpichninncab
open Go.RowKit Go.WideShapes Go.ChangeShapes
set_option linter.unusedVariables false

theorem OwnI.storedR {e : TypeId} {w : World} {B g n c : Nat} {xs : List Int} (h : OwnI e w B (.slice (some ⟨g, 0, none⟩) n c) xs) (j : Nat) (y : Int) : OwnI e (w.setCell ⟨g, j, none⟩ (.int .i64 y)) B (.slice (some ⟨g, 0, none⟩) n c) (xs.set j y) := by
  obtain ⟨A, c', e', -⟩ := h.shape
  injection e' with e1 e2 e3
  subst e2
  have h' : w.ownsRow B e 1 (.slice (some ⟨g, 0, none⟩) xs.length c) xs.length (xs.map (Value.int .i64)) := h
  have := (h'.stored j (.int .i64 y)).1
  unfold OwnI
  rw [List.length_set, List.map_set]
  exact this
theorem OwnI.cellR {e : TypeId} {w : World} {B g n c : Nat} {xs : List Int} (h : OwnI e w B (.slice (some ⟨g, 0, none⟩) n c) xs) {j : Nat} (hj : j < xs.length) : w.cell? ⟨g, j, none⟩ = some (.int .i64 (xs.getD j 0)) ∧ w.frozen? ⟨g, j, none⟩ = false := by
  obtain ⟨A, c', e', -⟩ := h.shape
  injection e' with e1 e2 e3
  subst e2
  have h' : w.ownsRow B e 1 (.slice (some ⟨g, 0, none⟩) xs.length c) xs.length (xs.map (Value.int .i64)) := h
  refine ⟨?_, h'.frozenAt j⟩
  rw [h'.cellAt j (by omega)]
  simp [List.getD, hj]
theorem OwnI.blockR {e : TypeId} {w : World} {B : Nat} {v : Value} {xs : List Int} (h : OwnI e w B v xs) (hx : 0 < xs.length) : ∃ g c, v = .slice (some ⟨g, 0, none⟩) xs.length c ∧ B ≤ g ∧ g < w.heap.size := by
  obtain ⟨g, c, e1, h1, h2⟩ := World.ownsRow.form h hx
  exact ⟨g, c, e1, h1, h2⟩
def lenQ : Value → Nat
  | .slice _ n _ => n
  | _ => 0
theorem lenQ_own {e : TypeId} {w : World} {B : Nat} {v : Value} {xs : List Int} (h : OwnI e w B v xs) : lenQ v = xs.length := by
  obtain ⟨_, _, rfl, -⟩ := h.shape; rfl
set_option maxHeartbeats 1600000 in
theorem rvRanks_any (v : Value) (xs : List Int) (w : World) (hv : Ints w v xs) (hg : good xs = true) :
    Calls Try.prog 57 #[.agg #[v]] w fun (r : Ending) w' => ∃ u, r = Ending.returned u ∧ OwnI 3 w' w.heap.size u (rankL xs) ∧ Below w.heap.size w w' := by
  have HV := hid hv
  have HG := hid hg
  have hl10 := (good_length hg).2
  have HN := hid (heights_nat hg)
  have HML := hid (fun k => rkM_le (fun e => (heights_nat hg e).2) k)
  clear hv hg
  go_enter Try.func57, Try.ntmps57
  have HB := hid (below_alloc (Below.refl _ w) (.cells #[v] 28))
  have A0 := hid (At.newAt w v 28 w.heap.size (by simp))
  go_wp2_with fail
  refine (poHeights_any _ xs _ (HV.out.below HB.out) HG.out).mono ?_
  rintro e w' ⟨u, rfl, ho, hb⟩
  replace HB := hid (below_to HB.out hb)
  replace A0 := hid (A0.out.below hb)
  clear hb
  have hz := HB.out.size
  have HI := hid ho.ints
  have hlen := heights_len HG.out
  have HEnd : Hid (rankL xs = rkS (heightsL xs) xs.length (rkM (heightsL xs) xs.length)) := hid rfl
  obtain ⟨ls, hls⟩ : ∃ ls, heightsL xs = ls := ⟨_, rfl⟩
  rw [hls] at HI HN HML HEnd hlen
  obtain ⟨A, c, rfl, hA⟩ := HI.out
  have HA := hid hA
  rw [← hlen] at HEnd hl10
  clear ho HI hA hls hlen
  go_wp2
  go_loopw [4, 11] (fun q i wr => ∃ k : Nat, k ≤ ls.length ∧ i = .int .i64 k ∧ OwnI 3 wr w'.heap.size q (rkS ls k (rkM ls k)) ∧ Below w'.heap.size w' wr) (fun _ i _ => ls.length - (intOf i).toNat)
  case atStart => exact ⟨0, Nat.zero_le _, rfl, OwnI.nil _ _ _, Below.refl _ _⟩
  case round =>
    obtain ⟨k, hk, rfl, ho, hb⟩ := hrel
    have HO := hid ho
    have HB1 := hid hb
    by_cases hlt : k < ls.length
    · obtain ⟨b, o, rfl, hbl, hc⟩ := HA.out (by intro h; simp [h] at hlt)
      have hcell : wr.cell? ⟨b, o + k, none⟩ = some (.int .i64 (ls.getD k 0)) := (hb.cell (p := ⟨b, o + k, none⟩) hbl).trans (hc k hlt)
      obtain ⟨hn1, hn2⟩ := HN.out k
      have hMk := HML.out k
      have HMd : Hid (rkM ls (k + 1) = max (rkM ls k) ((ls.getD k 0).toNat + 1)) := hid rfl
      obtain ⟨h, hh⟩ : ∃ h, (ls.getD k 0).toNat = h := ⟨_, rfl⟩
      rw [hh] at hn1 hn2 HMd
      rw [hn1] at hcell
      have HH := hid hh
      clear hc ho hb hn1 hh
      go_wp2
      go_loopw [4] (fun q wi => ∃ m : Nat, rkM ls k ≤ m ∧ m ≤ max (rkM ls k) (h + 1) ∧ OwnI 3 wi w'.heap.size q (rkS ls k m) ∧ Below w'.heap.size w' wi) (fun q _ => h + 1 - lenQ q)
      case atStart => exact ⟨rkM ls k, Nat.le_refl _, Nat.le_max_left _ _, HO.out, HB1.out⟩
      case round =>
        obtain ⟨m, hm1, hm2, ho, hb⟩ := hrel
        have HO2 := hid ho
        have HB2 := hid hb
        have hz2 := hb.size
        obtain ⟨qA, qc, rfl, -⟩ := ho.shape
        rw [rkS_length] at HO2 ⊢
        clear ho hb
        by_cases hmh : m ≤ h
        · have hl48 : (rkS ls k m).length < 1048576 := by rw [rkS_length]; omega
          go_wp2_with (at_builtin; refine wpList_append_int rfl _ _ 22 3 rfl Try.underlying22 Try.info3 w'.heap.size _ _ 0 rfl HO2.out rfl rfl hl48 hz2 ?_; rintro q2 w6 ho6 hb6)
          have HGw := hid (rkS_grow ls (k := k) (m := m) hm1)
          have hq2 := lenQ_own ho6
          rw [List.length_append, rkS_length] at hq2
          go_roundw
          case rel => exact ⟨m + 1, by omega, by omega, (by rw [← HGw.out]; exact ho6), HB2.out.trans hb6⟩
          case measure => rw [hq2]; simp [lenQ]; omega
        · have hMe : m = rkM ls (k + 1) := by rw [HMd.out]; omega
          obtain ⟨g, c2, hsh, hg1, hg2⟩ := HO2.out.blockR (by rw [rkS_length]; omega)
          rw [rkS_length] at hsh
          cases hsh
          obtain ⟨t1, t2⟩ := HO2.out.cellR (j := h) (by rw [rkS_length]; omega)
          rw [rkS_get ls k (show h < m by omega)] at t1
          have hE := rkE_lt ls (Nat.le_refl k) h
          have HSet := hid (rkS_set ls (k := k) (m := m) (i := h) HH.out (by omega))
          have hp9 := pow_lt10 k (by omega)
          obtain ⟨E, hEq⟩ : ∃ E, rkE ls k h = E := ⟨_, rfl⟩
          rw [hEq] at t1 hE HSet
          have wp := wrap_pow' k (by omega)
          have hor := or_pow E k (by omega) (by omega)
          have hhm : (h : Int) < m := by omega
          have hm10 : m ≤ 10 := by omega
          clear hEq hE hp9 hm1 hm2
          go_wp2
          go_region
          go_wp2
          go_roundw
          case rel => exact ⟨k + 1, by omega, by go_num, (by rw [← hMe, ← HSet.out]; exact (HO2.out.storedR h _).drew), (HB2.out.setCell (p := ⟨g, h, none⟩) hg1 _).drew⟩
          case measure => simp [intOf]; omega
    · obtain rfl : k = ls.length := by omega
      clear ho hb
      go_wp2
      go_ret
      exact ⟨_, rfl, (by rw [HEnd.out]; exact HO.out.mono hz), below_to HB.out HB1.out⟩
/-- is it a ranked poset, and one with the ideal? -/
def okRk (xs : List Int) : Bool := good xs && rankedB xs
def okRI (xs : List Int) (s : Int) : Bool := okRk xs && okIdeal xs s
theorem okRk_no {xs : List Int} (h : good xs = false) : okRk xs = false := by simp [okRk, h]
theorem okRk_yes {xs : List Int} (h : good xs = true) : okRk xs = rankedB xs := by simp [okRk, h]
theorem okRk_good {xs : List Int} (h : okRk xs = true) : good xs = true ∧ rankedB xs = true := by simpa [okRk] using h
theorem okRI_no {xs : List Int} {s : Int} (h : okRk xs = false) : okRI xs s = false := by simp [okRI, h]
theorem okRI_yes {xs : List Int} {s : Int} (h : okRk xs = true) : okRI xs s = okIdeal xs s := by simp [okRI, h]
theorem okRI_all {xs : List Int} {s : Int} (h : okRI xs s = true) : ∃ z : Nat, s = (z : Int) ∧ good xs = true ∧ rankedB xs = true ∧ z < 2 ^ xs.length ∧ holdsIdeal xs z = true := by
  have h1 : okRk xs = true ∧ okIdeal xs s = true := by simpa [okRI] using h
  obtain ⟨z, h2, h3, h4, h5⟩ := okIdeal_all h1.2
  exact ⟨z, h2, h3, (okRk_good h1.1).2, h4, h5⟩
theorem rvGood_any (v : Value) (xs : List Int) (w : World) (hv : Ints w v xs) (hl : xs.length ≤ 1048576) :
    Calls Try.prog 29 #[.agg #[v]] w fun r w' => r = .returned (.bool (okRk xs)) ∧ Below w.heap.size w w' := by
  have HV := hid hv
  clear hv
  go_enter Try.func29, Try.ntmps29
  have HB := hid (below_alloc (Below.refl _ w) (.cells #[v] 28))
  have A0 := hid (At.newAt w v 28 w.heap.size (by simp))
  go_wp2_with fail
  refine (poGood_any _ xs _ (HV.out.below HB.out) hl).mono ?_
  rintro e w' ⟨rfl, hb⟩
  replace HB := hid (below_to HB.out hb)
  replace A0 := hid (A0.out.below hb)
  clear hb
  cases hq : good xs
  · have HQ := hid hq
    clear hq
    have ebox0 := A0.out.1
    go_wp2
    go_ret
    exact ⟨ret_bool (okRk_no HQ.out).symm, HB.out⟩
  · have HQ := hid hq
    clear hq
    have ebox0 := A0.out.1
    go_wp2_with fail
    clear ebox0
    refine (poRanked_any _ xs _ (HV.out.below HB.out) HQ.out).mono ?_
    rintro e w' ⟨rfl, hb⟩
    replace HB := hid (below_to HB.out hb)
    replace A0 := hid (A0.out.below hb)
    clear hb
    cases hr : rankedB xs
    · have HR := hid hr
      clear hr
      have ebox0 := A0.out.1
      go_wp2
      go_ret
      exact ⟨ret_bool (by rw [okRk_yes HQ.out, HR.out]), HB.out⟩
    · have HR := hid hr
      clear hr
      have ebox0 := A0.out.1
      go_wp2
      go_ret
      exact ⟨ret_bool (by rw [okRk_yes HQ.out, HR.out]), HB.out⟩
theorem rvAt_any (v : Value) (xs : List Int) (s r : Nat) (w : World) (hv : Ints w v xs) (hg : good xs = true) (hs : s < 2 ^ xs.length) (hr : r < 1024) :
    Calls Try.prog 64 #[.agg #[v], .int .i64 s, .int .i64 r] w fun q w' => q = .returned (.int .i64 (togW xs s (elL xs.length r) : Nat)) ∧ Below w.heap.size w w' := by
  have HV := hid hv
  have HG := hid hg
  have HN := hid hs
  have hl10 := (good_length hg).2
  have HIn : Hid (∀ k, k ≤ xs.length → inW xs.length (elL k r) = true) := hid (fun k hk => List.all_eq_true.2 fun y hy => by
    obtain ⟨e, he, rfl⟩ := List.mem_map.1 hy
    have := (elN_mem.1 he).1
    simp; omega)
  obtain ⟨A, c, rfl, -⟩ := hv
  clear hg hs
  go_enter Try.func64, Try.ntmps64
  have HB := hid (below_alloc (Below.refl _ w) (.cells #[(.slice A xs.length c)] 28))
  have A0 := hid (At.newAt w (.slice A xs.length c) 28 w.heap.size (by simp))
  go_wp2
  go_loopw [1, 11] (fun q i wr => ∃ k t : Nat, k ≤ xs.length ∧ i = .int .i64 k ∧ q = .int .i64 (t : Nat) ∧ Hid (togW xs s (elL k r) = t) ∧ Below w.heap.size w wr ∧ At wr w.heap.size (.slice A xs.length c)) (fun _ i _ => xs.length - (intOf i).toNat)
  case atStart => exact ⟨0, s, Nat.zero_le _, rfl, rfl, hid rfl, HB.out, A0.out⟩
  case round =>
    obtain ⟨k, t, hk, rfl, rfl, HT, hb, ha⟩ := hrel
    have HB1 := hid hb
    have HA1 := hid ha
    by_cases hlt : k < xs.length
    · cases hbit : r.testBit k
      · have HBit := hid hbit
        clear hbit hb ha
        go_wp2_with (go_at_call 73; refine (poIn_any r k (by omega) _).mono ?_; rw [HBit.out]; rintro e w' ⟨rfl, rfl⟩)
        go_roundw
        case rel => exact ⟨k + 1, t, by omega, by go_num, rfl, hid (by rw [elL_no HBit.out]; exact HT.out), HB1.out, HA1.out⟩
        case measure => simp [intOf]; omega
      · have HBit := hid hbit
        have hl2 : togW xs s (elL k r) < 2 ^ xs.length := togW_lt HN.out (HIn.out k hk)
        have HL := hid (show t < 2 ^ xs.length by rw [← HT.out]; exact hl2)
        have hbox := ha.1
        clear hbit hb ha hl2
        go_wp2_with (go_at_call 73; refine (poIn_any r k (by omega) _).mono ?_; rw [HBit.out]; rintro e w' ⟨rfl, rfl⟩)
        clear hbox
        refine (tgAt_any _ xs t k _ (HV.out.below HB1.out) HG.out HL.out hlt).mono ?_
        rintro e' w' ⟨rfl, hb⟩
        have HB2 := hid (below_to HB1.out hb)
        have HA2 := hid (HA1.out.below hb)
        clear hb
        go_wp2
        go_roundw
        case rel => exact ⟨k + 1, _, by omega, by go_num, rfl, hid (by rw [elL_yes HBit.out, togW_app, HT.out]; rfl), HB2.out, HA2.out⟩
        case measure => simp [intOf]; omega
    · obtain rfl : k = xs.length := by omega
      clear hb ha
      go_wp2
      go_ret
      exact ⟨ret_int (by rw [← HT.out]), HB1.out⟩
end Go.Proofs.Ytkalpichninncab
