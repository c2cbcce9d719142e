/- The part of a text behind the colon, as the program reads it. -/
import Derived.Test.YtiodligebnnodaaDoorPsA
namespace Go.Proofs.YtiodligebnnodaaDoor
open Go.RowKit Go.WideShapes Go.ChangeShapes
set_option linter.unusedVariables false

theorem relK_none {ps : List (List UInt8)} {k : Nat} (h : relK ps k = none) (j : Nat) (hj : k ≤ j) : relK ps j = none := by
  induction j with
  | zero => have : k = 0 := by omega
            subst this; exact h
  | succ j ih =>
    by_cases e : k = j + 1
    · subst e; exact h
    · rw [relK, ih (by omega)]; rfl
theorem relK_yes {ps : List (List UInt8)} {k : Nat} {ls : List (List Int)} {r : List Int} (h : relK ps k = some ls) (hr : rdP (ps.getD k []) = some r) : relK ps (k + 1) = some (ls ++ [r]) := by
  rw [relK, h, hr]; rfl
theorem relK_no {ps : List (List UInt8)} {k : Nat} {ls : List (List Int)} (h : relK ps k = some ls) (hr : rdP (ps.getD k []) = none) : relK ps (k + 1) = none := by
  rw [relK, h, hr]; rfl
theorem relK_length {ps : List (List UInt8)} (k : Nat) : ∀ ls, relK ps k = some ls → ls.length = k ∧ ∀ r ∈ ls, r.length = 2 := by
  induction k with
  | zero => intro ls h; simp only [relK, Option.some.injEq] at h; subst h; exact ⟨rfl, fun r hr => by cases hr⟩
  | succ k ih =>
    intro ls h
    rw [relK] at h
    cases hq : relK ps k with
    | none => rw [hq] at h; cases h
    | some q =>
      rw [hq, Option.bind_some] at h
      cases hr : rdP (ps.getD k []) with
      | none => rw [hr] at h; cases h
      | some r =>
        rw [hr] at h
        simp only [Option.map_some, Option.some.injEq] at h
        subst h
        obtain ⟨a, b⟩ := ih q hq
        refine ⟨by simp [a], fun x hx => ?_⟩
        rw [List.mem_append, List.mem_singleton] at hx
        rcases hx with hx | rfl
        · exact b x hx
        · unfold rdP at hr
          split at hr
          · simp only [Option.some.injEq] at hr; rw [← hr]; rfl
          · cases hr
theorem rel_small {ls : List (List Int)} {n : Nat} (h1 : ls.length ≤ n) (hn : n ≤ 1000) (h2 : ∀ r ∈ ls, r.length = 2) : SSmall ls := by
  have h3 : ∀ j, (ls.getD j []).length ≤ 2 := by
    intro j
    rcases Nat.lt_or_ge j ls.length with h | h
    · have := h2 (ls.getD j []) (by simp [List.getD, h])
      omega
    · simp [List.getD, h]
  have h4 : ∀ k, offL ls k ≤ 2 * k := by
    intro k
    induction k with
    | zero => simp [offL]
    | succ k ih =>
      have h5 := h3 k
      have h6 : offL ls (k + 1) = offL ls k + (ls.getD k []).length := rfl
      omega
  have h7 := h4 ls.length
  exact ⟨by omega, fun j _ => by have := h3 j; omega, by omega⟩
theorem relL_small (l : List UInt8) : SSmall ((relL l).getD []) := by
  unfold relL
  split
  · exact ⟨by simp, by simp, by simp [offL]⟩
  · cases h : relK (splC l) (splC l).length with
    | none => exact ⟨by simp, by simp, by simp [offL]⟩
    | some ls =>
      obtain ⟨a, b⟩ := relK_length _ ls h
      exact rel_small (n := 101) (by show ls.length ≤ 101; rw [a]; exact splC_length l) (by decide) b
theorem rdP_ok {p : List UInt8} {x y : Int} (h1 : Lib.atoiAll (cutL 60 p).1 = .ok x) (h2 : Lib.atoiAll (cutL 60 p).2.1 = .ok y) : rdP p = some [x, y] := by
  unfold rdP; rw [h1, h2]
theorem rdP_no1 {p : List UInt8} (h : ∀ v, Lib.atoiAll (cutL 60 p).1 ≠ .ok v) : rdP p = none := by
  unfold rdP
  split
  · rename_i h1 h2; exact absurd h1 (h _)
  · rfl
theorem rdP_no2 {p : List UInt8} (h : ∀ v, Lib.atoiAll (cutL 60 p).2.1 ≠ .ok v) : rdP p = none := by
  unfold rdP
  split
  · rename_i h1 h2; exact absurd h2 (h _)
  · rfl
theorem OwnSS.monoBP {ti ts : TypeId} {w : World} {B B' E : Nat} {v : Value} {ls : List (List Int)} (h : OwnSS ti ts w B E v ls) (hB : B' ≤ B) : OwnSS ti ts w B' E v ls := by
  obtain ⟨us, h1, h2, h3, h4, h5⟩ := h
  refine ⟨us, h1, ?_, h3, fun j u l hu hl => ⟨(h4 j u l hu hl).1.mono hB, (h4 j u l hu hl).2⟩, h5⟩
  obtain ⟨a1, a2⟩ := h2
  refine ⟨a1, ?_⟩
  rcases a2 with a2 | ⟨g, cap, cur, hv, hg, r⟩
  · exact .inl a2
  · exact .inr ⟨g, cap, cur, hv, by omega, r⟩
theorem ret_vbR {u : Value} {a b : Bool} (h : a = b) : Ending.returned (.tuple #[u, .bool a]) = .returned (.tuple #[u, .bool b]) := by rw [h]
theorem OwnI.two (e : TypeId) (w : World) (x y : Int) (B : Nat) (hB : B ≤ w.heap.size) : OwnI e (w.alloc (.cells #[.int .i64 x, .int .i64 y] e)) B (.slice (some ⟨w.heap.size, 0, none⟩) 2 2) [x, y] :=
  Blk.own (xs := [x, y]) (Blk.new w e #[.int .i64 x, .int .i64 y]) hB (by simp)
set_option maxRecDepth 100000 in
set_option maxHeartbeats 3200000 in
theorem relationsIn_any (l : List UInt8) (w : World) (hG : Glob w) (hl : l.length ≤ 1048576) :
    Calls Tryd.prog 12 #[.string (sB l)] w fun (r : Ending) w' => ∃ u, r = Ending.returned (.tuple #[u, .bool (relL l).isSome]) ∧ OwnSS 3 22 w' w.heap.size w'.heap.size u ((relL l).getD []) ∧ Below w.heap.size w w' := by
  have HG := hid hG
  by_cases h45 : l = [45]
  · subst h45
    have HR : Hid (relL [45] = some []) := hid rfl
    clear hG
    have hs : sB [45] = { data := #[45] } := rfl
    rw [hs]
    go_enter Tryd.func12, Tryd.ntmps12
    go_wp2
    go_ret2
    exact ⟨_, ret_vbR (by rw [HR.out]; rfl), by rw [HR.out]; exact OwnSS.nil _ _ _ _ _, Below.refl _ _⟩
  · have HR : Hid (relL l = relK (splC l) (splC l).length) := hid (by unfold relL; rw [if_neg h45])
    have hne : ¬ (sB l).toList = [45] := by rw [sB_toList]; exact h45
    have hne2 : ((sB l).toList == [45]) = false := by rw [beq_eq_false_iff_ne]; exact hne
    have HSp := hid (splitN_any l w hG hl)
    have hlen := splC_length l
    have HPart := hid (fun j hj => splC_part l (j := j) hj)
    obtain ⟨ps, hps⟩ : ∃ ps, splC l = ps := ⟨_, rfl⟩
    rw [hps] at HR HSp hlen HPart
    obtain ⟨s, hs⟩ : ∃ s, sB l = s := ⟨_, rfl⟩
    rw [hs] at hne hne2 HSp ⊢
    clear hG h45 hps hs
    go_enter Tryd.func12, Tryd.ntmps12
    go_wp2_with fail
    clear hne hne2
    refine HSp.out.mono ?_
    rintro e w1 ⟨u, rfl, hu, hb⟩
    have HU := hid hu
    have HB := hid hb
    obtain ⟨uA, uc, rfl, -⟩ := hu
    clear hb
    go_wp2
    go_loopw [4, 19] (fun q i wr => ∃ (k : Nat) (ls : List (List Int)), k ≤ ps.length ∧ i = .int .i64 k ∧ Hid (relK ps k = some ls) ∧ ls.length = k ∧ OwnSS 3 22 wr w1.heap.size wr.heap.size q ls ∧ Below w1.heap.size w1 wr) (fun _ i _ => ps.length - (intOf i).toNat)
    case atStart => exact ⟨0, [], Nat.zero_le _, rfl, hid rfl, rfl, OwnSS.nil _ _ _ _ _, Below.refl _ _⟩
    case round =>
      obtain ⟨k, ls, hk, rfl, HK, hlk, ho, hb⟩ := hrel
      have HO := hid ho
      have Hb := hid hb
      have hz := hb.size
      obtain ⟨oA, oc, rfl, -⟩ := ho.rows
      rw [hlk] at ho HO ⊢
      have HO := hid ho
      clear ho hb
      by_cases hlt : k < ps.length
      · obtain ⟨A, c, hsh, hcs⟩ := HU.out
        injection hsh with h1 h2 h3
        subst h1
        obtain ⟨b, o, rfl, hbl, hc⟩ := hcs k hlt
        have hcell := (Hb.out.cell (p := ⟨b, o + k, none⟩) hbl).trans hc
        have hpl := HPart.out k hlt
        have HYes := hid (fun r (hr : rdP (ps.getD k []) = some r) => relK_yes HK.out hr)
        have HNo := hid (fun (hr : rdP (ps.getD k []) = none) => relK_none (relK_no HK.out hr) ps.length (by omega))
        obtain ⟨p, hp⟩ : ∃ p, ps.getD k [] = p := ⟨_, rfl⟩
        rw [hp] at hcell hpl HYes HNo
        have hc1 := (cutL_length 60 p).1
        have hc2 := (cutL_length 60 p).2
        have HG1 := hid ((HG.out.later HB.out).later Hb.out)
        have HLK := hid hlk
        clear hcs hc h2 h3 hp hlk
        go_wp2_with fail
        clear hcell
        refine (cut_any 60 p _ HG1.out (by omega)).mono ?_
        rintro e w2 ⟨rfl, hb2⟩
        have HO2 := hid (HO.out.below hb2)
        have Hb2 := hid (below_to Hb.out hb2)
        have HG2 := hid (HG1.out.later hb2)
        have hz2 := hb2.size
        clear hb2
        go_wp2_with fail
        refine (atoi_any (cutL 60 p).1 _ HG2.out (by omega)).mono ?_
        rintro e w3 ⟨x, ex, rfl, hx, hb3⟩
        have HO3 := hid (HO2.out.below hb3)
        have Hb3 := hid (below_to Hb2.out hb3)
        have HG3 := hid (HG2.out.later hb3)
        have hz3 := hb3.size
        have HX := hid hx
        clear hb3 hx
        go_wp2_with fail
        refine (atoi_any (cutL 60 p).2.1 _ HG3.out (by omega)).mono ?_
        rintro e w4 ⟨y, ey, rfl, hy, hb4⟩
        have HO4 := hid (HO3.out.below hb4)
        have Hb4 := hid (below_to Hb3.out hb4)
        have hz4 := hb4.size
        clear hb4
        rcases HX.out with ⟨hx1, rfl, -⟩ | ⟨hx1, tx, px, rfl⟩
        · rcases hy with ⟨hy1, rfl, -⟩ | ⟨hy1, ty, py, rfl⟩
          · have HE := hid (HYes.out _ (rdP_ok hx1 hy1))
            have HOw := hid (OwnI.two 3 w4 x y w1.heap.size (by omega))
            clear hx1 hy1
            go_wp2_with (at_builtin; refine wpList_append_row (w := w4.alloc (.cells #[.int .i64 x, .int .i64 y] 3)) rfl _ _ 36 22 3 rfl Tryd.underlying36 Tryd.info22 (by decide) w1.heap.size wr.heap.size _ _ ls [x, y] rfl (HO4.out.alloc _) HOw.out (fun b hb => by simp only [Value.ownBlock, Option.some.injEq] at hb; omega) rfl (by show Value.slice (some ⟨w4.heap.size + 1, 0, none⟩) 1 1 = _; simp) (by have := HLK.out; omega) (by simp; omega) (by simp; omega) ?_; rintro u5 w5 ho5 hb5)
            go_roundw
            case rel => exact ⟨k + 1, _, by omega, by go_num, HE, by simp [HLK.out], ho5, (Hb4.out.trans ((Below.refl _ _).alloc (by omega) _)).trans hb5⟩
            case measure => simp [intOf]; omega
          · have HE := hid (HNo.out (rdP_no2 hy1))
            clear hx1 hy1
            go_wp2
            go_ret2
            exact ⟨_, ret_vbR (by rw [HR.out, HE.out]; rfl), by rw [HR.out, HE.out]; exact OwnSS.nil _ _ _ _ _, below_to HB.out Hb4.out⟩
        · have HE := hid (HNo.out (rdP_no1 hx1))
          clear hx1 hy
          go_wp2
          go_ret2
          exact ⟨_, ret_vbR (by rw [HR.out, HE.out]; rfl), by rw [HR.out, HE.out]; exact OwnSS.nil _ _ _ _ _, below_to HB.out Hb4.out⟩
      · obtain rfl : k = ps.length := by omega
        have HE : Hid (relL l = some ls) := hid (HR.out.trans HK.out)
        have hBz := HB.out.size
        go_wp2
        go_ret2
        exact ⟨_, ret_vbR (by rw [HE.out]; rfl), by rw [HE.out]; exact HO.out.monoBP hBz, below_to HB.out Hb.out⟩
end Go.Proofs.YtiodligebnnodaaDoor
