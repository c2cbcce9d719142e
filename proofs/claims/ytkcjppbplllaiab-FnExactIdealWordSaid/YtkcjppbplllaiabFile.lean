/- FileSums: contracts. -/
import Derived.Test.YtkcjppbplllaiabPromO
import Derived.Test.YtkcjppbplllaiabOrbE
import Derived.Deep.DeepCutAuto
namespace Go.Proofs.Ytkcjppbplllaiab
open Go.RowKit Go.WideShapes Go.ChangeShapes
set_option linter.unusedVariables false

theorem TurnedIn.drew {B E : Nat} {a b : World} (h : TurnedIn B E a b) : TurnedIn B E a b.drew := h.trans (TurnedIn.of_below (below_drewN (Below.refl _ _) 1))
def fsum (F c : Nat → Nat) : Nat → Nat → Nat
  | 0, _ => 0
  | k + 1, i => fsum F c k i + (if F k = i then c k else 0)
theorem fsum_add (F c1 c2 : Nat → Nat) (k i : Nat) : fsum F c1 k i + fsum F c2 k i = fsum F (fun e => c1 e + c2 e) k i := by
  induction k with
  | zero => rfl
  | succ k ih =>
    simp only [fsum]
    rw [← ih]
    split <;> omega
theorem fsum_le {F c : Nat → Nat} {M : Nat} (h : ∀ e, c e ≤ M) (k i : Nat) : fsum F c k i ≤ M * k := by
  induction k with
  | zero => exact Nat.zero_le _
  | succ k ih =>
    have := h k
    simp only [fsum]
    rw [Nat.mul_succ]
    split <;> omega
theorem fsum_none (F : Nat → Nat) (k i : Nat) : fsum F (fun _ => 0) k i = 0 := by
  induction k with
  | zero => rfl
  | succ k ih => simp only [fsum, ih]; split <;> rfl
def fileF (x y e : Nat) : Nat := e % y + (x - 1) - e / y
theorem fileF_facts {x y e : Nat} (hx : 1 ≤ x) (hy : 1 ≤ y) (he : e < x * y) : e % y < y ∧ e / y ≤ x - 1 ∧ fileF x y e < x + y - 1 ∧ ((e % y : Nat) : Int) - ((e / y : Nat) : Int) + (x : Int) - 1 = ((fileF x y e : Nat) : Int) := by
  have h1 := Nat.mod_lt e (show 0 < y by omega)
  have h2 : e / y < x := (Nat.div_lt_iff_lt_mul (by omega)).2 he
  unfold fileF
  obtain ⟨r, hr⟩ : ∃ r, e % y = r := ⟨_, rfl⟩
  obtain ⟨q, hq⟩ : ∃ q, e / y = q := ⟨_, rfl⟩
  rw [hr] at h1 ⊢
  rw [hq] at h2 ⊢
  clear hr hq he
  omega
/-- the sums of all files -/
def filesL (x y : Nat) (c : Nat → Nat) : List Int := mkL (x + y - 1) (fsum (fileF x y) c (x * y))
def ansFS (a b s : Int) : List Int := if okOb a b s then filesL a.toNat b.toNat (fun e => sumL (bitN e) (orbL (wordF (rectL a b) (promW a.toNat b.toNat)) (2 ^ (rectL a b).length) s.toNat)) else []
theorem ansFS_no {a b s : Int} (h : okOb a b s = false) : ansFS a b s = [] := by simp [ansFS, h]
theorem ansFS_yes {x y z : Nat} (h : okOb x y z = true) : ansFS x y z = filesL x y (fun e => sumL (bitN e) (orbL (wordF (rectL x y) (promW x y)) (2 ^ (rectL x y).length) z)) := by simp [ansFS, h]
theorem okOb_all {a b s : Int} (h : okOb a b s = true) : ∃ x y z : Nat, a = x ∧ b = y ∧ s = z ∧ 1 ≤ x ∧ x ≤ 10 ∧ 1 ≤ y ∧ y ≤ 10 ∧ x * y ≤ 9 ∧ rectL a b = whereL (rectF y) (x * y) ∧ good (rectL a b) = true ∧ (rectL a b).length = x * y ∧ idB (rectL a b) z = true := by
  simp only [okOb, Bool.and_eq_true] at h
  obtain ⟨x, y, rfl, rfl, h1, h2, h3, h4, h5, h6, h7, h8⟩ := sides9_all h.1
  obtain ⟨z, rfl, -, h9, h10⟩ := okIdeal_all h.2
  exact ⟨x, y, z, rfl, rfl, rfl, h1, h2, h3, h4, h5, h6, h7, h8, idB_iff.2 ⟨h9, h10⟩⟩
theorem ansFS_length (a b s : Int) : (ansFS a b s).length ≤ 1048576 := by
  cases h : okOb a b s
  · rw [ansFS_no h]; simp
  · obtain ⟨x, y, z, rfl, rfl, rfl, h1, h2, h3, h4, -⟩ := okOb_all h
    rw [ansFS_yes h]; unfold filesL; rw [mkL_length]; omega
theorem sumTo_bit_le (e : Nat) (ls : List Int) (k : Nat) : sumTo (bitN e) ls k ≤ k := by
  induction k with
  | zero => exact Nat.le_refl _
  | succ k ih => have : bitN e (ls.getD k 0).toNat ≤ 1 := by unfold bitN; omega
                 unfold sumTo; omega
set_option maxHeartbeats 3200000 in
theorem specFileSums_any (a b s : Int) (w : World) (wa : (Lit.int .i64 a).wf = true) (wb : (Lit.int .i64 b).wf = true) (ws : (Lit.int .i64 s).wf = true) :
    Calls Try.prog 16 #[.int .i64 a, .int .i64 b, .int .i64 s] w fun (r : Ending) w' => ∃ q, r = Ending.returned (.tuple #[q, .bool (okOb a b s)]) ∧ OwnI 3 w' w.heap.size q (ansFS a b s) ∧ (ansFS a b s).length ≤ 1048576 ∧ Below w.heap.size w w' := by
  have HT := hid (obIdeal_any a b s w wa wb)
  have HL := hid (ansFS_length a b s)
  clear wa wb ws
  cases hs : okOb a b s
  · have HN := hid (ansFS_no hs)
    rw [hs] at HT
    clear hs
    go_enter Try.func16, Try.ntmps16
    go_wp2_with fail
    refine HT.out.mono ?_
    rintro e w1 ⟨rfl, hb⟩
    have HB := hid hb
    clear hb
    go_wp2
    go_ret2
    exact ⟨_, rfl, by rw [HN.out]; exact OwnI.nil _ _ _, HL.out, HB.out⟩
  · rw [hs] at HT
    obtain ⟨x, y, z, rfl, rfl, rfl, h1, h2, h3, h4, h5, hr, hg, hlx, hz⟩ := okOb_all hs
    have HA := hid (ansFS_yes hs)
    have h10 : x * y ≤ 10 := by omega
    rw [hr] at hg hlx hz HA
    obtain ⟨xs, hx⟩ : ∃ xs, whereL (rectF y) (x * y) = xs := ⟨_, rfl⟩
    rw [hx] at hg hlx hz HA
    have hin : inW xs.length (promW x y) = true := by rw [hlx]; exact (promW_in h2 h4).ok
    have HM := hid (wordMov hin)
    have HOrb := hid (fun W => obPromotion_any x y z W h1 h2 h3 h4 h10 xs hx hz)
    have hN2 := two_pow_le xs.length (good_length hg).2
    have HPS := hid (HM.out.perS hz)
    have HLt := hid (fun k => (idB_iff.1 (HM.out.it hz k)).1)
    obtain ⟨f, hf⟩ : ∃ f, wordF xs (promW x y) = f := ⟨_, rfl⟩
    rw [hf] at HM HOrb HPS HLt HA
    obtain ⟨N, hN⟩ : ∃ N, 2 ^ xs.length = N := ⟨_, rfl⟩
    rw [hN] at HOrb HPS HLt HA hN2
    have HOL : Hid ((orbL f N z).length ≤ 1024) := hid (by rw [orbL_length]; have := HPS.out.2.2.1; omega)
    have HOA : Hid (∀ j, j < (orbL f N z).length → ∃ t : Nat, (orbL f N z).getD j 0 = (t : Int) ∧ t < 1024) := hid (by
      intro j hj
      rw [orbL_length] at hj
      exact ⟨_, orbTL_get _ _ hj, by have := HLt.out j; omega⟩)
    obtain ⟨ls, hls⟩ : ∃ ls, orbL f N z = ls := ⟨_, rfl⟩
    rw [hls] at HOrb HOL HOA HA
    obtain ⟨m, hm⟩ : ∃ m, x + y - 1 = m := ⟨_, rfl⟩
    obtain ⟨n, hn⟩ : ∃ n, x * y = n := ⟨_, rfl⟩
    have HFF := hid (fun e (he : e < n) => fileF_facts (x := x) (y := y) (e := e) h1 h3 (by rw [hn]; exact he))
    have HAns : Hid (ansFS x y z = mkL m (fun i => fsum (fileF x y) (fun e => sumTo (bitN e) ls ls.length) n i)) := hid (by rw [HA.out]; unfold filesL sumL; rw [hm, hn])
    have hsum : ((x : Int) + (y : Int)) - 1 = (m : Int) := by omega
    have HSum := hid hsum
    have hmul : ((x : Int) * (y : Int)) = (n : Int) := by rw [← Int.natCast_mul, hn]
    have HMul := hid hmul
    have hn9 : n ≤ 9 := by omega
    have hm19 : m ≤ 19 := by omega
    have hmk := run_make_row' (P := Try.prog) 22 3 (.int .i64 0) 8 Try.underlying22 Try.info3 rfl .i64 .i64 m (by omega) (by omega)
    rw [hm] at HFF
    have hl1 := HOL.out
    clear hs hr hg hlx hz hin hf hN hls hx h5 h10 hN2 HPS HLt HM HA hm hn hmul
    go_enter Try.func16, Try.ntmps16
    go_wp2_with fail
    clear hsum hmk
    refine HT.out.mono ?_
    rintro e w1 ⟨rfl, hb1⟩
    have HB1 := hid hb1
    clear hb1
    have hmk := run_make_row' (P := Try.prog) 22 3 (.int .i64 0) 8 Try.underlying22 Try.info3 rfl .i64 .i64 m (by omega) (by omega)
    have hsum := HSum.out
    go_wp2_with fail
    clear hsum hmk
    rw [Vals_made]
    refine (HOrb.out _).mono ?_
    rintro e w2 ⟨q, rfl, ho, hb⟩
    obtain ⟨g, hg⟩ : ∃ g, w1.heap.size = g := ⟨_, rfl⟩
    have hwg : w.heap.size ≤ g := by rw [← hg]; exact HB1.out.size
    have HB := hid (below_to (below_alloc HB1.out _) hb)
    have HSums : Hid (Blk w2 g 3 (Vals (mkL m (fun _ => 0)))) := hid (by
      subst hg
      rw [mkL_zero]
      exact (Blk.newAt w1 3 (Vals (List.replicate m 0)) w1.heap.size rfl).below hb (by simp))
    have HOL1 := hid (OwnI.mono ho (B' := g + 1) (by simp; omega))
    have HOB : Hid (∀ k, q.ownBlock = some k → g + 1 ≤ k ∧ k < w2.heap.size) := hid (fun k hk => by
      have h1 := ho.blockLt k hk
      simp at h1
      omega)
    have hgw : g < w2.heap.size := HSums.out.lt
    obtain ⟨qA, qc, hsh, -⟩ := ho.shape
    subst hsh
    have h0 : Hid (∀ i, 0 = fsum (fileF x y) (fun e => sumTo (bitN e) ls 0) n i) := hid (fun i => (fsum_none _ _ _).symm)
    clear hb ho
    go_wp2
    clear hg
    go_loopw [27] (fun i wr => ∃ j : Nat, j ≤ ls.length ∧ i = .int .i64 j ∧ Blk wr g 3 (Vals (mkL m (fun i => fsum (fileF x y) (fun e => sumTo (bitN e) ls j) n i))) ∧ TurnedIn g (g + 1) w2 wr) (fun i _ => ls.length - (intOf i).toNat)
    case atStart => exact ⟨0, Nat.zero_le _, rfl, (by rw [← mkL_congr (fun i _ => h0.out i)]; exact HSums.out), TurnedIn.refl _ _ _⟩
    case round =>
      obtain ⟨j, hj, rfl, hB, ht⟩ := hrel
      have HBk := hid hB
      have HT1 := hid ht
      by_cases hlt : j < ls.length
      · have hoi := HOL1.out.turned ht HOB.out (.inr (Nat.le_refl _))
        obtain ⟨t, hts, ht10⟩ := HOA.out j hlt
        have hcell : ∃ b, qA = some ⟨b, 0, none⟩ ∧ wr.cell? ⟨b, 0 + j, none⟩ = some (.int .i64 (t : Nat)) := by
          obtain ⟨A', c', h1, h2⟩ := hoi.shape
          obtain ⟨A2, c2, h3, h4⟩ := hoi.ints
          injection h1 with e1 e2 e3
          subst e1; subst e3
          have hne : ls ≠ [] := by intro h; simp [h] at hlt
          obtain ⟨b, h5, -, -⟩ := h2 hne
          injection h3 with e4 e5 e6
          subst e4; subst e6
          obtain ⟨b2, o2, h6, -, h7⟩ := h4 hne
          have h8 : b2 = b ∧ o2 = 0 := by rw [h5] at h6; cases h6; exact ⟨rfl, rfl⟩
          obtain ⟨rfl, rfl⟩ := h8
          exact ⟨_, h5, by rw [h7 j hlt, hts]⟩
        obtain ⟨b, rfl, hcell⟩ := hcell
        rw [Nat.zero_add] at hcell
        have HStep : Hid (∀ i, fsum (fileF x y) (fun e => sumTo (bitN e) ls j) n i + fsum (fileF x y) (fun e => bitN e t) n i = fsum (fileF x y) (fun e => sumTo (bitN e) ls (j + 1)) n i) := hid (fun i => by
          rw [fsum_add]
          congr 1
          funext e
          rw [sumTo_succ (g := bitN e) hts])
        have HStart : Hid (∀ i, fsum (fileF x y) (fun e => sumTo (bitN e) ls j) n i = fsum (fileF x y) (fun e => sumTo (bitN e) ls j) n i + fsum (fileF x y) (fun e => bitN e t) 0 i) := hid (fun i => rfl)
        have HLe : Hid (∀ k i, k ≤ n → fsum (fileF x y) (fun e => sumTo (bitN e) ls j) n i + fsum (fileF x y) (fun e => bitN e t) k i ≤ 10240) := hid (fun k i hk => by
          have e1 := fsum_le (F := fileF x y) (c := fun e => sumTo (bitN e) ls j) (M := 1024) (fun e => Nat.le_trans (sumTo_bit_le e ls j) (by omega)) n i
          have e2 := fsum_le (F := fileF x y) (c := fun e => bitN e t) (M := 10) (fun e => bitN_le e t) k i
          omega)
        clear hts hoi hB ht
        go_wp2
        clear hcell
        go_loopw [11] (fun i wi => ∃ k : Nat, k ≤ n ∧ i = .int .i64 k ∧ Blk wi g 3 (Vals (mkL m (fun i => fsum (fileF x y) (fun e => sumTo (bitN e) ls j) n i + fsum (fileF x y) (fun e => bitN e t) k i))) ∧ TurnedIn g (g + 1) w2 wi) (fun i _ => n - (intOf i).toNat)
        case atStart => exact ⟨0, Nat.zero_le _, rfl, (by rw [← mkL_congr (fun i _ => HStart.out i)]; exact HBk.out), HT1.out⟩
        case round =>
          obtain ⟨k, hk, rfl, hB, ht⟩ := hrel
          have HBi := hid hB
          have HTi := hid ht
          clear hB ht
          have hmul := HMul.out
          by_cases hkn : k < n
          · obtain ⟨f1, f2, f3, f4⟩ := HFF.out k hkn
            obtain ⟨r, hr⟩ : ∃ r, k % y = r := ⟨_, rfl⟩
            obtain ⟨q, hq⟩ : ∃ q, k / y = q := ⟨_, rfl⟩
            obtain ⟨i, hi⟩ : ∃ i, fileF x y k = i := ⟨_, rfl⟩
            have hm1 := tmod_nat k y
            have hm2 : ((k : Int) % (y : Int)) = ((k % y : Nat) : Int) := by simp
            have hq1 := tdiv_nat k y
            have hq2 : ((k : Int) / (y : Int)) = ((k / y : Nat) : Int) := by simp
            rw [hr] at hm1 hm2 f1 f4
            rw [hq] at hq1 hq2 f2 f4
            rw [hi] at f3 f4
            have HI := hid hi
            have hle := HLe.out k i hk
            obtain ⟨v0, hv0⟩ : ∃ v0, fsum (fileF x y) (fun e => sumTo (bitN e) ls j) n i + fsum (fileF x y) (fun e => bitN e t) k i = v0 := ⟨_, rfl⟩
            rw [hv0] at hle
            have hct : wr.cell? ⟨g, i, none⟩ = some (.int .i64 (v0 : Nat)) := by
              rw [HBi.out.cell, Vals_get (by rw [mkL_length]; exact f3), mkL_getD f3, hv0]
            have hft := HBi.out.frozen i
            have HV0 := hid hv0
            clear hr hq hi hv0
            cases hbit : t.testBit k
            · have HBit := hid hbit
              have HZ : Hid (∀ i', fsum (fileF x y) (fun e => bitN e t) (k + 1) i' = fsum (fileF x y) (fun e => bitN e t) k i') := hid (fun i' => by
                simp only [fsum, bitN_bit, hbit]; simp)
              clear hbit hct hft hm1 hm2 hq1 hq2
              go_wp2_with (go_at_call 47; refine (poIn_any t k (by omega) _).mono ?_; rw [HBit.out]; rintro e' w3 ⟨rfl, rfl⟩)
              go_roundw
              case rel => exact ⟨k + 1, by omega, by go_num, (by rw [mkL_congr (fun i' _ => by rw [HZ.out i'])]; exact HBi.out), HTi.out⟩
              case measure => simp [intOf]; omega
            · have HBit := hid hbit
              have HZ : Hid (∀ i', fsum (fileF x y) (fun e => bitN e t) (k + 1) i' = fsum (fileF x y) (fun e => bitN e t) k i' + if i' = i then 1 else 0) := hid (fun i' => by
                simp only [fsum, bitN_bit, hbit, HI.out]
                by_cases h : i' = i
                · subst h; simp
                · simp [h, show ¬ i = i' from fun e => h e.symm])
              clear hbit
              obtain ⟨D, hD⟩ : ∃ D, (r : Int) - (q : Int) = D := ⟨_, rfl⟩
              rw [hD] at f4
              obtain ⟨E, hE⟩ : ∃ E, D + (x : Int) = E := ⟨_, rfl⟩
              rw [hE] at f4
              have hy0 : ¬ (y : Int) = 0 := by omega
              have hy1 : ((y : Int) == 0) = false := by rw [beq_eq_false_iff_ne]; omega
              have hwD : IntKind.i64.wrap D = D := IntWalk.i64_in _ (by omega)
              have hwE : IntKind.i64.wrap E = E := IntWalk.i64_in _ (by omega)
              have hwi : IntKind.i64.wrap (i : Int) = (i : Int) := IntWalk.i64_in _ (by omega)
              have hwv : IntKind.i64.wrap ((v0 : Int) + 1) = (v0 : Int) + 1 := IntWalk.i64_in _ (by omega)
              have him : (i : Int) < (m : Int) := by omega
              go_wp2_with (go_at_call 47; refine (poIn_any t k (by omega) _).mono ?_; rw [HBit.out]; rintro e' w3 ⟨rfl, rfl⟩)
              go_region
              all_goals go_wp2
              all_goals clear hm1 hm2 hq1 hq2 hD hE hy0 hy1 hwD hwE hwi hwv hmul f4
              all_goals go_roundw
              case rel => exact ⟨k + 1, by omega, by go_num, (by rw [mkL_congr (h := fun i' => if i' = i then v0 + 1 else fsum (fileF x y) (fun e => sumTo (bitN e) ls j) n i' + fsum (fileF x y) (fun e => bitN e t) k i') (fun i' _ => by rw [HZ.out i']; split; (rename_i h; subst h; rw [← HV0.out]; omega); omega), ← mkL_set _ f3, ← Vals_set]; exact HBi.out.set_ i _), (HTi.out.set_ ⟨g, i, none⟩ ⟨Nat.le_refl _, Nat.lt_succ_self _⟩ _).drew⟩
              case measure => simp [intOf]; omega
          · obtain rfl : k = n := by omega
            go_wp2
            clear hmul
            go_roundw
            case rel => exact ⟨j + 1, by omega, by go_num, (by rw [← mkL_congr (fun i _ => HStep.out i)]; exact HBi.out), HTi.out⟩
            case measure => simp [intOf]; omega
      · obtain rfl : j = ls.length := by omega
        have HBel := hid (below_turned HB.out ht hwg)
        have HOw := hid (Blk.own (xs := ansFS x y z) (B := w.heap.size) (by rw [HAns.out]; exact hB) hwg HL.out)
        have hlm : (ansFS x y z).length = m := by rw [HAns.out, mkL_length]
        rw [hlm] at HOw
        clear ht hB hlm
        go_wp2
        go_ret2
        exact ⟨_, rfl, HOw.out, HL.out, HBel.out⟩
set_option maxHeartbeats 3200000 in
theorem implFileSums_any (a b s : Int) (w : World) (wa : (Lit.int .i64 a).wf = true) (wb : (Lit.int .i64 b).wf = true) (ws : (Lit.int .i64 s).wf = true) :
    Calls Try.prog 17 #[.int .i64 a, .int .i64 b, .int .i64 s] w fun (r : Ending) w' => ∃ q, r = Ending.returned (.tuple #[q, .bool (okOb a b s)]) ∧ OwnI 3 w' w.heap.size q (ansFS a b s) ∧ (ansFS a b s).length ≤ 1048576 ∧ Below w.heap.size w w' := by
  have HT := hid (rectangleWithin_any a b w wa wb)
  have HL := hid (ansFS_length a b s)
  clear wa wb ws
  go_enter Try.func17, Try.ntmps17
  go_wp2_with fail
  refine HT.out.mono ?_
  rintro e w1 ⟨u, rfl, ho, hl, hb⟩
  obtain ⟨uA, un, uc, rfl⟩ := ho.shape3
  have HB := hid (below_alloc hb (.cells #[.slice uA un uc] 38))
  have HV := hid (ho.ints.alloc (.cells #[.slice uA un uc] 38))
  have HAt := hid (At.new w1 (.slice uA un uc) 38)
  have hbx := HAt.out.1
  have hbz := hb.size
  clear ho hb
  cases hs : sides9 a b
  · have HO := hid (okOb_no1 (s := s) hs)
    have HN := hid (ansFS_no HO.out)
    clear hs
    go_wp2
    go_ret2
    exact ⟨_, ret_vbP HO.out.symm, by rw [HN.out]; exact OwnI.nil _ _ _, HL.out, HB.out⟩
  · have HS := hid hs
    rw [rect9_yes hs] at HV hl
    clear hs
    go_wp2_with fail
    refine (hasIdeal_any _ (rectL a b) s _ HV.out hl).mono ?_
    rintro e w2 ⟨rfl, hb⟩
    have HB2 := hid (below_to HB.out hb)
    have HV2 := hid (HV.out.below hb)
    have HA2 := hid (HAt.out.below hb)
    have hbz2 := hb.size
    clear hb hbx
    cases hi : okIdeal (rectL a b) s
    · have HO := hid (okOb_no2 (a := a) (b := b) hi)
      have HN := hid (ansFS_no HO.out)
      clear hi
      go_wp2
      go_ret2
      exact ⟨_, ret_vbP HO.out.symm, by rw [HN.out]; exact OwnI.nil _ _ _, HL.out, HB2.out⟩
    · have HO := hid (okOb_yes HS.out hi)
      have HA := hid (ansFS_yes (x := a.toNat) (y := b.toNat) (z := s.toNat))
      clear hi
      obtain ⟨x, y, z, rfl, rfl, rfl, h1, h2, h3, h4, h5, hr, hg, hlx, hz⟩ := okOb_all HO.out
      have HA := hid (ansFS_yes HO.out)
      have h10 : x * y ≤ 10 := by omega
      obtain ⟨xs, hx⟩ : ∃ xs, rectL (x : Int) (y : Int) = xs := ⟨_, rfl⟩
      rw [hx] at hg hlx hz HA HV2
      have hin : inW xs.length (promW x y) = true := by rw [hlx]; exact (promW_in h2 h4).ok
      have HY := hid hin
      have HG := hid hg
      have HZ := hid hz
      have HM := hid (wordMov hin)
      have hN2 := two_pow_le xs.length (good_length hg).2
      have HPS := hid (HM.out.perS hz)
      have HLt := hid (fun k => (idB_iff.1 (HM.out.it hz k)).1)
      have hwl := (promW_in (a := x) (b := y) h2 h4).len
      have hwl2 : (promW x y).length ≤ 1048576 := by omega
      have HOL : Hid ((orbL (wordF xs (promW x y)) (2 ^ xs.length) z).length ≤ 1024) := hid (by rw [orbL_length]; have := HPS.out.2.2.1; omega)
      have HOA : Hid (∀ j, j < (orbL (wordF xs (promW x y)) (2 ^ xs.length) z).length → ∃ t : Nat, (orbL (wordF xs (promW x y)) (2 ^ xs.length) z).getD j 0 = (t : Int) ∧ t < 1024) := hid (by
        intro j hj
        rw [orbL_length] at hj
        exact ⟨_, orbTL_get _ _ hj, by have := HLt.out j; omega⟩)
      obtain ⟨ls, hls⟩ : ∃ ls, orbL (wordF xs (promW x y)) (2 ^ xs.length) z = ls := ⟨_, rfl⟩
      have HLs := hid hls
      rw [hls] at HOL HOA HA
      obtain ⟨m, hm⟩ : ∃ m, x + y - 1 = m := ⟨_, rfl⟩
      obtain ⟨n, hn⟩ : ∃ n, x * y = n := ⟨_, rfl⟩
      have HFF := hid (fun e (he : e < n) => fileF_facts (x := x) (y := y) (e := e) h1 h3 (by rw [hn]; exact he))
      have HAns : Hid (ansFS x y z = mkL m (fun i => fsum (fileF x y) (fun e => sumTo (bitN e) ls ls.length) n i)) := hid (by rw [HA.out]; unfold filesL sumL; rw [hm, hn])
      have HSum : Hid (((x : Int) + (y : Int)) - 1 = (m : Int)) := hid (by omega)
      have hn9 : n ≤ 9 := by omega
      have hm19 : m ≤ 19 := by omega
      have hxn : xs.length = n := by rw [hlx, hn]
      rw [hm] at HFF
      have hl1 := HOL.out
      have hbx2 := HA2.out.1
      clear hg hlx hz hin hls h5 hN2 HPS HLt HM HA hm hn hwl hr hx
      go_upto_region 4 with fail
      go_cut [10] (fun s10 wx => ∃ (qA : Option Addr) (qc : Nat), s10 = .slice qA ls.length qc ∧ OwnI 3 wx w2.heap.size (.slice qA ls.length qc) ls ∧ Below w2.heap.size w2 wx)
      case first =>
        go_region_with (first | (go_at_call 45; refine (promotionOf_any x y _ h1 h2 h3 h4 h10).mono ?_; rintro e w3 ⟨u3, rfl, ho3, hb3⟩; have H3 := hid (below_to (Below.refl _ w2).drew hb3); have HV3 := hid (HV2.out.drew.below hb3); have HU3 := hid ho3.ints; have hbx3 := (HA2.out.drew.below hb3).1; clear hb3 ho3) | (go_at_call 49; refine (orbitWord_any _ xs _ (promW x y) z _ HV3.out HG.out HZ.out HU3.out HY.out hwl2).mono ?_; rintro e w4 ⟨q, rfl, ho4, hb4⟩; have H4 := hid (below_to H3.out hb4); have HO4 : Hid (OwnI 3 w4 w2.heap.size q ls) := hid (by have := OwnI.mono ho4 H3.out.size; rw [← HLs.out]; exact this); clear hb4 ho4; obtain ⟨qA, qc, hsh, -⟩ := HO4.out.shape; subst hsh))
        all_goals (go_wp2_with fail; go_meet; exact ⟨qA, qc, rfl, HO4.out, H4.out⟩)
      case rest =>
        obtain ⟨qA, qc, rfl, ho5, hb5⟩ := hcut
        clear hbx2
        have HB5 := hid (below_to HB2.out hb5)
        have HA5 := hid (HA2.out.below hb5)
        have HV5 := hid (HV2.out.below hb5)
        have HQ5 := hid ho5
        have HQB := hid ho5.blockLt
        have hz5 := hb5.size
        clear hb5 ho5
        obtain ⟨rfl⟩ : un = n := by
          obtain ⟨A', c', hsh, -⟩ := HV5.out
          injection hsh with _ e2 _
          rw [e2, hxn]
        have hbx5 := HA5.out.1
        have hbx5z := HA5.out.2
        have hmk := run_make_row' (P := Try.prog) 22 3 (.int .i64 0) 8 Try.underlying22 Try.info3 rfl .i64 .i64 m (by omega) (by omega)
        have hsum := HSum.out
        go_wp2
        clear hsum hmk hbx5
        rw [Vals_made]
        obtain ⟨g, hg⟩ : ∃ g, wc.heap.size = g := ⟨_, rfl⟩
        have HS6 : Hid (Blk (wc.alloc (.cells (Vals (List.replicate m 0)) 3)) g 3 (Vals (mkL m (fun i => fsum (fileF x y) (fun e => sumTo (bitN e) ls ls.length) 0 i)))) := hid (by
          subst hg
          have e : mkL m (fun i => fsum (fileF x y) (fun e => sumTo (bitN e) ls ls.length) 0 i) = List.replicate m 0 := by rw [← mkL_zero]; rfl
          rw [e]; exact Blk.newAt wc 3 (Vals (List.replicate m 0)) wc.heap.size rfl)
        have HB6 := hid (below_alloc HB5.out (.cells (Vals (List.replicate m 0)) 3))
        have HQ6 := hid (HQ5.out.alloc (.cells (Vals (List.replicate m 0)) 3))
        have hgz := HS6.out.lt
        have hwg : w.heap.size ≤ g := by rw [← hg]; exact HB5.out.size
        have HQB2 : Hid (∀ k, (Value.slice qA ls.length qc).ownBlock = some k → w2.heap.size ≤ k ∧ k < g) := hid (fun k hk => by have := HQB.out k hk; omega)
        rw [hg]
        obtain ⟨W6, hW6⟩ : ∃ W6, wc.alloc (.cells (Vals (List.replicate m 0)) 3) = W6 := ⟨_, rfl⟩
        rw [hW6] at HS6 HB6 HQ6 hgz ⊢
        clear hg hW6 hbx5z
        go_loopw [43] (fun i wr => ∃ k : Nat, k ≤ un ∧ i = .int .i64 k ∧ Blk wr g 3 (Vals (mkL m (fun i => fsum (fileF x y) (fun e => sumTo (bitN e) ls ls.length) k i))) ∧ TurnedIn g (g + 1) W6 wr) (fun i _ => un - (intOf i).toNat)
        case atStart => exact ⟨0, Nat.zero_le _, rfl, HS6.out, TurnedIn.refl _ _ _⟩
        case round =>
          obtain ⟨k, hk, rfl, hB, ht⟩ := hrel
          have HBi := hid hB
          have HTi := hid ht
          by_cases hkn : k < un
          · have HQi := hid (OwnI.ints (HQ6.out.turned ht HQB2.out (.inl (Nat.le_refl _))))
            obtain ⟨f1, f2, f3, f4⟩ := HFF.out k hkn
            obtain ⟨r, hr⟩ : ∃ r, k % y = r := ⟨_, rfl⟩
            obtain ⟨q, hq⟩ : ∃ q, k / y = q := ⟨_, rfl⟩
            obtain ⟨i, hi⟩ : ∃ i, fileF x y k = i := ⟨_, rfl⟩
            have hm1 := tmod_nat k y
            have hm2 : ((k : Int) % (y : Int)) = ((k % y : Nat) : Int) := by simp
            have hq1 := tdiv_nat k y
            have hq2 : ((k : Int) / (y : Int)) = ((k / y : Nat) : Int) := by simp
            rw [hr] at hm1 hm2 f1 f4
            rw [hq] at hq1 hq2 f2 f4
            rw [hi] at f3 f4
            have HI := hid hi
            have hle := fsum_le (F := fileF x y) (c := fun e => sumTo (bitN e) ls ls.length) (M := 1024) (fun e => Nat.le_trans (sumTo_bit_le e ls ls.length) hl1) k i
            obtain ⟨v0, hv0⟩ : ∃ v0, fsum (fileF x y) (fun e => sumTo (bitN e) ls ls.length) k i = v0 := ⟨_, rfl⟩
            rw [hv0] at hle
            have hct : wr.cell? ⟨g, i, none⟩ = some (.int .i64 (v0 : Nat)) := by
              rw [HBi.out.cell, Vals_get (by rw [mkL_length]; exact f3), mkL_getD f3, hv0]
            have HV0 := hid hv0
            have HCt := hid hct
            have hsle := sumTo_bit_le k ls ls.length
            have HCW := hid (fun W (hW : Below wr.heap.size wr W) => countWith_any (.slice qA ls.length qc) ls k W (HQi.out.below hW) hl1 (by omega) HOA.out)
            obtain ⟨c0, hc0⟩ : ∃ c, sumTo (bitN k) ls ls.length = c := ⟨_, rfl⟩
            rw [hc0] at HCW hsle
            have HZ : Hid (∀ i', fsum (fileF x y) (fun e => sumTo (bitN e) ls ls.length) (k + 1) i' = fsum (fileF x y) (fun e => sumTo (bitN e) ls ls.length) k i' + if i' = i then c0 else 0) := hid (fun i' => by
              simp only [fsum, HI.out, hc0]
              by_cases h : i' = i
              · subst h; simp
              · simp [h, show ¬ i = i' from fun e => h e.symm])
            obtain ⟨D, hD⟩ : ∃ D, (r : Int) - (q : Int) = D := ⟨_, rfl⟩
            rw [hD] at f4
            obtain ⟨G, hG⟩ : ∃ G, (1 : Int) - (x : Int) = G := ⟨_, rfl⟩
            have hDG : D - G = (i : Int) := by omega
            have hy0 : ¬ (y : Int) = 0 := by omega
            have hy1 : ((y : Int) == 0) = false := by rw [beq_eq_false_iff_ne]; omega
            have hwD : IntKind.i64.wrap D = D := IntWalk.i64_in _ (by omega)
            have hwG : IntKind.i64.wrap G = G := IntWalk.i64_in _ (by omega)
            have hwi : IntKind.i64.wrap (i : Int) = (i : Int) := IntWalk.i64_in _ (by omega)
            have hwv : IntKind.i64.wrap ((v0 : Int) + (c0 : Int)) = (v0 : Int) + (c0 : Int) := IntWalk.i64_in _ (by omega)
            have him : (i : Int) < (m : Int) := by omega
            have HGe := hid hG
            have HDG := hid hDG
            have HWG := hid hwG
            have HWi := hid hwi
            have HWv := hid hwv
            clear hr hq hi hv0 hct hc0 hB ht hG hDG hwG hwi hwv f4
            go_wp2_with fail
            go_region
            clear hm1 hm2 hq1 hq2 hD hy0 hy1 hwD
            have hG := HGe.out
            have hDG := HDG.out
            have hwG := HWG.out
            have hwi := HWi.out
            have hwv := HWv.out
            have hct := HCt.out
            have hft := HBi.out.frozen i
            go_wp2_with fail
            go_region_with (first | (go_at_call 50; refine (HCW.out _ (Below.refl _ wr).drew.drew).mono ?_; rintro e' w3 ⟨rfl, hb3⟩; have H3 := hid (below_to (Below.refl _ wr).drew.drew hb3); have HB3 := hid (HBi.out.below H3.out HBi.out.lt); have hct3 := (HB3.out.cell i).trans ((HBi.out.cell i).symm.trans HCt.out); have hft3 := HB3.out.frozen i; clear hb3))
            all_goals clear hG hDG hwG hwi hwv hct hct3
            all_goals go_wp2
            all_goals go_roundw
            all_goals first
              | exact ⟨k + 1, by omega, by go_num, (by rw [mkL_congr (h := fun i' => if i' = i then v0 + c0 else fsum (fileF x y) (fun e => sumTo (bitN e) ls ls.length) k i') (fun i' _ => by rw [HZ.out i']; split; (rename_i h; subst h; rw [← HV0.out]); omega), ← mkL_set _ f3, ← Vals_set]; exact HB3.out.set_ i _), (HTi.out.trans (TurnedIn.of_below H3.out)).set_ ⟨g, i, none⟩ ⟨Nat.le_refl _, Nat.lt_succ_self _⟩ _⟩
              | (simp [intOf]; omega)
          · obtain rfl : k = un := by omega
            have HBel := hid (below_turned HB6.out ht hwg)
            have HOw := hid (Blk.own (xs := ansFS x y z) (B := w.heap.size) (by rw [HAns.out]; exact hB) hwg HL.out)
            have hlm : (ansFS x y z).length = m := by rw [HAns.out, mkL_length]
            rw [hlm] at HOw
            clear ht hB hlm
            go_wp2
            go_ret2
            exact ⟨_, ret_vbP HO.out.symm, HOw.out, HL.out, HBel.out⟩
end Go.Proofs.Ytkcjppbplllaiab
