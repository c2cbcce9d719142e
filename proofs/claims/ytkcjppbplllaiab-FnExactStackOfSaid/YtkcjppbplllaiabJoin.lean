/- Sums and stacks of posets. -/
import Derived.Test.YtkcjppbplllaiabSpec
import Derived.Test.YtkcjppbplllaiabLaw
import Derived.Test.YtkcjppbplllaiabHeights
import Derived.Test.YtkcjppbplllaiabRev
import Derived.Deep.AppendLies
import Derived.BigRegion
import Derived.Deep.RegionLaw
namespace Go.Proofs.Ytkcjppbplllaiab
open Go.RowKit Go.WideShapes Go.ChangeShapes
set_option linter.unusedVariables false

/-- 'append(out, y)' onto a slice of the call's own, as one step of a region that draws its order -/
theorem step_append_int {P : Program} {ops : Array Oper} {o : Oper} {a : Act} {w : World} {K : Act → World → Prop} {Q : Exit → Act → World → Prop} {E : Prop} (hgd : o.guard = none) (s x : Operand) (t e : TypeId)
    (ho : o.op = .call { callee := .builtin .append, args := #[s, x], argTypes := #[t, t] }) (ht : P.underlying t = some (.slice e)) (hinfo : (P.info? e).map (fun i => (i.zero, i.size, i.bytes)) = some (some (.int .i64 0), 1, 8))
    (B : Nat) (v : Value) (xs : List Int) (y : Int) (hs : a.eval s = v) (hown : OwnI e w B v xs) (g : Nat) (hx : a.eval x = .slice (some ⟨g, 0, none⟩) 1 1) (hg : Blk w g e #[.int .i64 y]) (hlen : xs.length < 1048576) (hB : B ≤ w.heap.size)
    (h : ∀ g' cap w', OwnI e w' B (.slice (some ⟨g', 0, none⟩) (xs.length + 1) cap) (xs ++ [y]) → w.grownBy w' v.ownBlock → (v.ownBlock = some g' ∨ g' = w.heap.size) → g' < w'.heap.size → K (a.put o.dst (.slice (some ⟨g', 0, none⟩) (xs.length + 1) cap)) w') :
    if Region.wanted o (yielded ops a.tmps) = true then Oper.wp P o a w K Q else E := by
  obtain ⟨i0, hi, hz0, hz1, hz2⟩ := info_parts hinfo
  refine step_append_lies w hgd s x t ho B e i0 (.int .i64 0) 1 8 ht hi hz0 hz1 hz2 rfl (by decide) v xs.length (xs.map (Value.int .i64)) hs hown ⟨g, 0, none⟩ 1 1 [.int .i64 y] hx rfl (World.news_of_block (cs := #[.int .i64 y]) hg) (by intro u hu; simp only [List.mem_singleton] at hu; subst hu; rfl) (by decide) (by unfold maxLen; omega) (by omega) hB _ rfl ?_
  intro g' cap w' h1 h2 h3 h4
  exact h g' cap w' (by unfold OwnI; simpa using h1) h2 h3 h4

/-- y moved up by n places, with all of 'below' -/
def shl (n below : Nat) (y : Int) : Int := ((y.toNat * 2 ^ n ||| below : Nat) : Int)
def joinL (xs ys : List Int) (below : Nat) : List Int := xs ++ ys.map (shl xs.length below)
def fits (xs ys : List Int) : Bool := (good xs && good ys) && decide (xs.length + ys.length ≤ 10)
theorem fits_good {xs ys : List Int} (h : fits xs ys = true) : good xs = true ∧ good ys = true ∧ xs.length + ys.length ≤ 10 := by
  simpa [fits, and_assoc] using h
def sumL (xs ys : List Int) : List Int := if fits xs ys then joinL xs ys 0 else []
def stackL (xs ys : List Int) : List Int := if fits xs ys then joinL xs ys (2 ^ xs.length - 1) else []
theorem joinL_take (xs ys : List Int) (below : Nat) {k : Nat} (hk : k < ys.length) : joinL xs (ys.take (k + 1)) below = joinL xs (ys.take k) below ++ [shl xs.length below (ys.getD k 0)] := by
  have e : ys.take (k + 1) = ys.take k ++ [ys.getD k 0] := by
    rw [List.take_succ_eq_append_getElem hk]; simp [List.getD, hk]
  unfold joinL
  rw [e, List.map_append, List.append_assoc]; rfl
theorem joinL_length (xs ys : List Int) (below : Nat) : (joinL xs ys below).length = xs.length + ys.length := by simp [joinL]
theorem l1Own_any (v : Value) (xs : List Int) (w : World) (hv : Ints w v xs) (hl : xs.length ≤ 1048576) :
    Calls Try.prog 93 #[v] w fun (r : Ending) w' => ∃ u, r = Ending.returned u ∧ OwnI 3 w' w.heap.size u xs ∧ Below w.heap.size w w' := by
  have HV := hid hv
  clear hv
  go_enter Try.func93, Try.ntmps93
  go_wp2_with (at_builtin; refine wpList_append_ints rfl _ _ 22 3 rfl Try.underlying22 Try.info3 w.heap.size _ [] rfl (OwnI.empty 3 w) _ xs rfl (HV.out.alloc _) (by simpa using hl) (by simp) ?_; rintro u w1 ho hb)
  go_ret
  exact ⟨_, rfl, by simpa using ho, (below_alloc (Below.refl _ w) _).trans hb⟩
set_option maxHeartbeats 3200000 in
theorem poJoin_any (v u : Value) (xs ys : List Int) (below : Nat) (w : World) (hv : Ints w v xs) (hu : Ints w u ys) (hg : good xs = true) (hy : good ys = true) (hxy : xs.length + ys.length ≤ 10) (hb : below < 1024) :
    Calls Try.prog 64 #[.agg #[v], .agg #[u], .int .i64 below] w fun (r : Ending) w' => ∃ q, r = Ending.returned (.agg #[q]) ∧ OwnI 3 w' w.heap.size q (joinL xs ys below) ∧ Below w.heap.size w w' := by
  have HV := hid hv
  have HY := hid hy
  obtain ⟨A, c, rfl, -⟩ := hv
  obtain ⟨A2, c2, rfl, hA2⟩ := hu
  have HA2 := hid hA2
  have hx10 := (good_length hg).2
  have hy10 := (good_length hy).2
  clear hA2 hg hy
  have HS3 : Hid (∀ T : TypeId, (((w.alloc (.cells #[.slice A xs.length c] T)).alloc (.cells #[.slice A2 ys.length c2] T)).alloc (.cells #[.slice none 0 0] T)).heap.size = w.heap.size + 3) := hid (fun T => by simp)
  go_enter Try.func64, Try.ntmps64
  go_wp2_with fail
  refine (l1Own_any _ xs _ (((HV.out.alloc _).alloc _).alloc _) (by omega)).mono ?_
  rintro e w1 ⟨q0, rfl, ho, hb1⟩
  obtain ⟨qA, qn, qc, rfl⟩ := ho.shape3
  have HP0 := hid ((((At.new w (.slice A xs.length c) 38).alloc (.cells #[.slice A2 ys.length c2] 38)).alloc (.cells #[.slice none 0 0] 38)).below hb1)
  have HP1 := hid (((At.newAt (w.alloc (.cells #[.slice A xs.length c] 38)) (.slice A2 ys.length c2) 38 (w.heap.size + 1) (by simp)).alloc (.cells #[.slice none 0 0] 38)).below hb1)
  have HP2 := hid ((Blk.newAt ((w.alloc (.cells #[.slice A xs.length c] 38)).alloc (.cells #[.slice A2 ys.length c2] 38)) 38 #[.slice none 0 0] (w.heap.size + 1 + 1) (by simp)).below hb1 (by simp))
  have HB := hid (below_to (below_alloc (below_alloc (below_alloc (Below.refl _ w) _) _) _) hb1)
  rw [HS3.out] at ho
  have HO := hid ho
  have hbx0 := HP0.out.1
  have hbx1 := HP1.out.1
  have hz1 : w.heap.size + 1 < w1.heap.size := HP1.out.2
  clear ho hb1
  go_wp2
  clear hbx0 hbx1
  obtain ⟨g, hg⟩ : ∃ g, w1.heap.size = g := ⟨_, rfl⟩
  rw [hg]
  rw [hg] at hz1
  have hg3 : w.heap.size + 3 ≤ g := by have h1 := HB.out.size; have h2 := HP2.out.lt; omega
  have hnb : ∀ k, (Value.slice qA qn qc).ownBlock = some k → k ≠ g := fun k hk => by have := HO.out.blockLt k hk; omega
  have HNb := hid hnb
  have HG := hid hg
  clear hg hnb
  have HW1 := hid (Below.refl w1.heap.size w1)
  go_loopw [17] (fun i wr => ∃ (k : Nat) (oA : Option Addr) (on oc : Nat), k ≤ ys.length ∧ i = .int .i64 k ∧ Blk wr g 38 #[.slice oA on oc] ∧ OwnI 3 wr (w.heap.size + 3) (.slice oA on oc) (joinL xs (ys.take k) below) ∧ Hid (∀ b, (Value.slice oA on oc).ownBlock = some b → b ≠ g) ∧ Below (w.heap.size + 3) w1 wr) (fun i _ => ys.length - (intOf i).toNat)
  case atStart => exact ⟨0, qA, qn, qc, Nat.zero_le _, rfl, Blk.newAt _ _ _ _ HG.out.symm, by simpa [joinL] using HO.out.alloc _, HNb, (Below.refl _ _).alloc (by have := HG.out; omega) _⟩
  case round =>
    obtain ⟨k, oA, on, oc, hk, rfl, hB, ho, HNe, hb⟩ := hrel
    have HBk := hid hB
    have HOw := hid ho
    have Hb := hid hb
    have hz := HG.out
    by_cases hlt : k < ys.length
    · obtain ⟨b, o, rfl, hbl, hc⟩ := HA2.out (by intro h; simp [h] at hlt)
      have HBw := hid (HB.out.trans (hb.mono (by omega)))
      have hcell : wr.cell? ⟨b, o + k, none⟩ = some (.int .i64 (ys.getD k 0)) := by rw [HBw.out.cell (p := ⟨b, o + k, none⟩) hbl]; exact hc k hlt
      have hr := row_lt HY.out hlt
      have hr10 := row_lt10 HY.out hlt
      obtain ⟨z, hz'⟩ : ∃ z, row ys k = z := ⟨_, rfl⟩
      rw [hz'] at hr hr10
      have HJ := hid (joinL_take xs ys below hlt)
      rw [hr.1] at hcell HJ
      have hsh : shl xs.length below (z : Int) = ((z * 2 ^ xs.length ||| below : Nat) : Int) := by simp [shl]
      rw [hsh] at HJ
      have hpw := two_pow_le xs.length hx10
      have hzb : z * 2 ^ xs.length ≤ 1024 * 1024 := Nat.mul_le_mul (by omega) hpw.2
      obtain ⟨m, hm⟩ : ∃ m, z * 2 ^ xs.length = m := ⟨_, rfl⟩
      have hmI : ((z : Int) * 2 ^ xs.length) = (m : Int) := by rw [← hm]; simp
      rw [hm] at HJ hzb
      have hor := i64_or_nat m below (by omega) (by omega)
      have hbxp : wr.cell? ⟨w.heap.size, 0, none⟩ = some (.slice A xs.length c) := by
        rw [hb.cell (p := ⟨w.heap.size, 0, none⟩) (by show w.heap.size < w.heap.size + 3; omega)]; exact HP0.out.1
      have hcg : wr.cell? ⟨g, 0, none⟩ = some (.slice oA on oc) := HBk.out.cell 0
      have hfg := HBk.out.frozen 0
      have hgz : g < wr.heap.size := HBk.out.lt
      have hpz : w.heap.size < wr.heap.size := by omega
      obtain ⟨y, hy⟩ : ∃ y : Nat, (m ||| below) = y := ⟨_, rfl⟩
      rw [hy] at hor HJ
      clear hc hr hz' hsh hpw hm hy hB ho hb
      go_wp2_with fail
      have hjl : (joinL xs (ys.take k) below).length < 1048576 := by rw [joinL_length, List.length_take]; omega
      have hwm : IntKind.i64.wrap (m : Int) = (m : Int) := IntWalk.i64_in _ (by omega)
      have hwm2 : wrap64 (m : Int) = (m : Int) := by unfold wrap64; omega
      have HOB := hid HOw.out.blockLt
      go_region_law (refine step_append_int rfl _ _ 22 3 rfl Try.underlying22 Try.info3 (w.heap.size + 3) (.slice oA on oc) (joinL xs (ys.take k) below) y rfl (by first | exact (HOw.out.alloc _).drew | exact HOw.out.drew.alloc _ | exact HOw.out.alloc _) wr.heap.size rfl (by first | exact Blk.newAt _ _ _ _ rfl | exact Blk.newAt wr _ _ _ rfl) hjl (by simp; omega) ?_; intro g' cap w' h1 h2 h3 h4; have hB' : Blk w' g 38 #[.slice oA on oc] := (h2.block g (by simp; omega) (fun e => HNe.out g e.symm rfl)).trans (HBk.out.alloc _); have hcg' := hB'.cell 0; have hfg' := hB'.frozen 0; have hgne : g' ≠ g := (by rcases h3 with h3 | h3; exact HNe.out g' h3; (simp at h3; omega)); have Hown := hid h1; have HB2 := hid hB'; have Hb2 := hid ((((Hb.out.alloc (by omega) _).drew).grown h2 (by simp; omega) (fun k hk => (HOB.out k hk).1)) : Below (w.heap.size + 3) w1 w'); clear h1 h2 h3 hB')
      clear hwm hwm2 hor hmI
      all_goals go_wp2
      all_goals go_roundw
      all_goals first | exact ⟨k + 1, _, _, _, by omega, by go_num, (HB2.out.set_ 0 _), (by rw [HJ.out]; have e := Hown.out.grown (grown_setCell (g := g) (World.grownBy.refl w' _) 0 (.slice (some ⟨g', 0, none⟩) ((joinL xs (ys.take k) below).length + 1) cap)) (.inr (fun e => hgne (by simpa [Value.ownBlock] using e))); exact e), hid (fun b hb => by simp [Value.ownBlock] at hb; omega), Hb2.out.setCell (by show w.heap.size + 3 ≤ g; omega) _⟩ | (simp [intOf]; omega)
    · obtain rfl : k = ys.length := by omega
      have HBw := hid (HB.out.trans (Hb.out.mono (by omega)))
      have hcg := HBk.out.cell 0
      have HRes : Hid (Blk wr (w.heap.size + 1 + 1) 38 #[.slice none 0 0]) := hid (HP2.out.below Hb.out (by omega))
      have hr1 := HRes.out.cell 0
      have hr2 := HRes.out.frozen 0
      rw [List.take_length] at ho
      have HOf := hid ho
      clear hB ho hb
      go_wp2
      refine bodyPost_ret (v := .agg #[.slice oA on oc]) (by simp [results, Try.results64, go_sem, hr1]) rfl ⟨_, rfl, ?_, ?_⟩
      · exact (HOf.out.grown (grown_setCell (g := w.heap.size + 1 + 1) (World.grownBy.refl _ _) 0 _) (HOf.out.apart (.inl (by omega)))).mono (by omega)
      · exact HBw.out.setCell (p := ⟨w.heap.size + 1 + 1, 0, none⟩) (by show w.heap.size ≤ w.heap.size + 1 + 1; omega) _
end Go.Proofs.Ytkcjppbplllaiab
