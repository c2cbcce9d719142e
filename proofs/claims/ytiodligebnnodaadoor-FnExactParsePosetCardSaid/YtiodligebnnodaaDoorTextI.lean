/- The text of a poset: the program's. -/
import Derived.Test.YtiodligebnnodaaDoorTextB
import Derived.Test.YtiodligebnnodaaDoorShelfJ
import Derived.Deep.AppendLies
import Derived.BigRegion
import Derived.Deep.RegionLaw
import Derived.Lib.JoinLaws
import Derived.Lib.Join
namespace Go.Proofs.YtiodligebnnodaaDoor
open Go.RowKit Go.WideShapes Go.ChangeShapes
set_option linter.unusedVariables false

def partsL (ps : List (Nat × Nat)) (k : Nat) : List (List UInt8) := (List.range k).map fun j => pairT (ps.getD j (0, 0))
theorem partsL_length (ps : List (Nat × Nat)) (k : Nat) : (partsL ps k).length = k := by simp [partsL]
theorem partsL_succ (ps : List (Nat × Nat)) (k : Nat) : partsL ps (k + 1) = partsL ps k ++ [pairT (ps.getD k (0, 0))] := by
  unfold partsL; rw [List.range_succ, List.map_append]; rfl
theorem join_snoc (l : List (List UInt8)) (y sep : List UInt8) (h : l ≠ []) : Lib.join (l ++ [y]) sep = (Lib.join l sep ++ sep) ++ y := by
  cases l with
  | nil => exact absurd rfl h
  | cons x r =>
    rw [List.cons_append, Lib.join_cons, Lib.join_cons]
    simp [Lib.joinTail, List.append_assoc]
theorem join_lsT (ps : List (Nat × Nat)) (k : Nat) : Lib.join (partsL ps k) [44] = lsT ps k := by
  induction k with
  | zero => rfl
  | succ k ih =>
    rw [partsL_succ, lsT]
    by_cases h : 0 < k
    · rw [join_snoc _ _ _ (by intro e; have := congrArg List.length e; rw [partsL_length] at this; simp at this; omega), ih, if_pos h]
    · obtain rfl : k = 0 := by omega
      simp [partsL, lsT, Lib.join_one]
theorem Tryd.info9 : (Tryd.prog.info? 9).map (fun i => (i.zero, i.size, i.bytes)) = some (some (.string { data := #[] }), 1, 16) := by kernel_rfl
def strs (l : List (List UInt8)) : List Value := l.map fun x => Value.string (sB x)
def StrOwn (ts : TypeId) (w : World) (B : Nat) (v : Value) (l : List (List UInt8)) : Prop := w.ownsRow B ts 1 v l.length (strs l)
theorem StrOwn.drew {ts : TypeId} {w : World} {B : Nat} {v : Value} {l : List (List UInt8)} (h : StrOwn ts w B v l) : StrOwn ts w.drew B v l := by
  refine World.ownsRow.kept (row := none) h (grown_of_below (Go.Joins.below_draws _ _ 1) none) ?_
  by_cases hv : v.ownBlock = none
  · exact .inl hv
  · exact .inr hv
theorem StrOwn.below {ts : TypeId} {w w' : World} {B : Nat} {v : Value} {l : List (List UInt8)} (h : StrOwn ts w B v l) (hb : Below w.heap.size w w') : StrOwn ts w' B v l := by
  by_cases hv : v.ownBlock = none
  · exact World.ownsRow.kept h (grown_of_below hb none) (.inl hv)
  · exact World.ownsRow.kept h (grown_of_below hb none) (.inr hv)
theorem step_append_str {P : Program} {ops : Array Oper} {o : Oper} {a : Act} {w : World} {K : Act → World → Prop} {Q : Exit → Act → World → Prop} {E : Prop} (hgd : o.guard = none) (s x : Operand) (t e : TypeId)
    (ho : o.op = .call { callee := .builtin .append, args := #[s, x], argTypes := #[t, t] }) (ht : P.underlying t = some (.slice e)) (hinfo : (P.info? e).map (fun i => (i.zero, i.size, i.bytes)) = some (some (.string { data := #[] }), 1, 16))
    (B : Nat) (v : Value) (l : List (List UInt8)) (y : List UInt8) (hs : a.eval s = v) (hown : StrOwn e w B v l) (g : Nat) (hx : a.eval x = .slice (some ⟨g, 0, none⟩) 1 1) (hg : Blk w g e #[.string (sB y)]) (hlen : l.length < 1048576) (hB : B ≤ w.heap.size)
    (h : ∀ g' cap w', StrOwn e w' B (.slice (some ⟨g', 0, none⟩) (l.length + 1) cap) (l ++ [y]) → w.grownBy w' v.ownBlock → (v.ownBlock = some g' ∨ g' = w.heap.size) → g' < w'.heap.size → K (a.put o.dst (.slice (some ⟨g', 0, none⟩) (l.length + 1) cap)) w') :
    if Region.wanted o (yielded ops a.tmps) = true then Oper.wp P o a w K Q else E := by
  obtain ⟨i0, hi, hz0, hz1, hz2⟩ := info_parts hinfo
  refine step_append_lies w hgd s x t ho B e i0 (.string { data := #[] }) 1 16 ht hi hz0 hz1 hz2 rfl (by decide) v l.length (strs l) hs hown ⟨g, 0, none⟩ 1 1 [.string (sB y)] hx rfl (World.news_of_block (cs := #[.string (sB y)]) hg) (by intro u hu; simp only [List.mem_singleton] at hu; subst hu; rfl) (by decide) (by unfold maxLen; omega) (by omega) hB _ rfl ?_
  intro g' cap w' h1 h2 h3 h4
  exact h g' cap w' (by unfold StrOwn strs; simpa [strs] using h1) h2 h3 h4
theorem join_bytes (ps : List (Nat × Nat)) (k : Nat) : Lib.join (((partsL ps k).map sB).map (·.data.toList)) [44] = lsT ps k := by
  rw [← join_lsT, List.map_map]
  congr 1
  have : ((fun x : ByteArray => x.data.toList) ∘ sB) = id := by funext l; show l.toArray.toList = l; simp
  rw [this, List.map_id]
def ansPT (xs : List Int) : List UInt8 := if good xs then textL xs.length (covPS xs xs.length xs.length) else []
theorem ansPT_no {xs : List Int} (h : good xs = false) : ansPT xs = [] := by simp [ansPT, h]
theorem ansPT_yes {xs : List Int} (h : good xs = true) : ansPT xs = textL xs.length (covPS xs xs.length xs.length) := by simp [ansPT, h]
theorem ret_sb {a b : ByteArray} {c d : Bool} (h : a = b) (k : c = d) : Ending.returned (.tuple #[.string a, .bool c]) = .returned (.tuple #[.string b, .bool d]) := by rw [h, k]
set_option maxRecDepth 100000 in
set_option maxHeartbeats 3200000 in
theorem implPosetText_any (v : Value) (xs : List Int) (w : World) (hv : Ints w v xs) (hl : xs.length ≤ 1048576) :
    Calls Tryd.prog 14 #[.agg #[v]] w fun r w' => r = .returned (.tuple #[.string (sB (ansPT xs)), .bool (good xs)]) ∧ Below w.heap.size w w' := by
  have HV := hid hv
  obtain ⟨A, c, rfl, -⟩ := hv
  have HE : Hid (Value.string { data := #[] } = Value.string (sB [])) := hid rfl
  have HCv := hid (implCoversP_any (.slice A xs.length c) xs (w.alloc (.cells #[.slice A xs.length c] 24)) (HV.out.alloc _) hl)
  cases hg : good xs
  · have HN := hid (ansPT_no hg)
    rw [hg] at HCv
    clear hg
    go_enter Tryd.func14, Tryd.ntmps14
    go_wp2_with fail
    refine HCv.out.mono ?_
    rintro e w1 ⟨u, rfl, ho, hb⟩
    have HB1 := hid (below_to (below_alloc (Below.refl _ w) _) hb)
    clear ho hb
    go_wp2
    go_ret2
    exact ⟨ret_sb (by rw [HN.out]; rfl) rfl, HB1.out⟩
  · have HN := hid (ansPT_yes hg)
    have hl10 := (good_length hg).2
    have HM := hid (fun k (h : k < (covPS xs xs.length xs.length).length) => covPS_at h)
    have HCP := hid (coversP_yes hg)
    have hc2 := coversP_length xs
    rw [hg] at HCv
    rw [HCP.out] at HCv hc2
    obtain ⟨ps, hps⟩ : ∃ ps, covPS xs xs.length xs.length = ps := ⟨_, rfl⟩
    rw [hps] at HM HCv HN hc2
    obtain ⟨n, hn⟩ : ∃ n, xs.length = n := ⟨_, rfl⟩
    rw [hn] at hl10 HV HM HCv HN ⊢
    clear hg hn hps HCP
    go_enter Tryd.func14, Tryd.ntmps14
    go_wp2_with fail
    refine HCv.out.mono ?_
    rintro e w1 ⟨u, rfl, hP, hb⟩
    obtain ⟨pA, pc, rfl, hcs⟩ := hP.shape
    have HC := hid hcs
    have HB1 := hid (below_to (below_alloc (Below.refl _ w) _) hb)
    have HA1 := hid ((At.new w (.slice A n c) 24).below hb)
    have hnn := numL_length n
    clear hP hb hcs HCv
    by_cases h0 : ps.length = 0
    · have h0' : ¬ (0 : Int) < (ps.length : Int) := by omega
      have hbx := HA1.out.1
      have HT : Hid (ansPT xs = (numL n ++ [58]) ++ [45]) := hid (by rw [HN.out, textL, if_pos h0])
      obtain ⟨T1, hT1⟩ : ∃ T1, numL n ++ [58] = T1 := ⟨_, rfl⟩
      have hT1l : T1.length ≤ 3 := by rw [← hT1]; simp; omega
      obtain ⟨T2, hT2⟩ : ∃ T2, T1 ++ [45] = T2 := ⟨_, rfl⟩
      have Ha1 := hid (fun W => run_sBc (numL n) 58 (by omega) W)
      have Ha2 := hid (fun W => run_sBc T1 45 (by omega) W)
      rw [hT1] at Ha1 HT
      rw [hT2] at Ha2 HT
      clear hT1 hT2
      go_wp2_with fail
      refine (itoa_lo n _ hl10).mono ?_
      rintro e w3 ⟨rfl, rfl⟩
      have ha1 := Ha1.out
      have ha2 := Ha2.out
      go_wp2
      go_ret2
      exact ⟨ret_sb (by rw [HT.out]) rfl, HB1.out⟩
    · have h0' : (0 : Int) < (ps.length : Int) := by omega
      have hmk := run_make_room (P := Tryd.prog) 44 9 (.string { data := #[] }) 16 Tryd.underlying44 Tryd.info9 rfl .i64 .i64 ps.length (by omega) (by omega)
      have HO0 : Hid (StrOwn 9 (w1.alloc (.cells (madeCells #[.string { data := #[] }] ps.length) 9)) w1.heap.size (.slice (some ⟨w1.heap.size, 0, none⟩) 0 ps.length) (partsL ps 0)) := hid (World.ownsRow_made w1 _ _ (Nat.le_refl _) (by unfold maxLen; omega) (by rw [size_madeCells, Nat.mul_one]))
      have hd0 : decide (0 < ps.length) = true := decide_eq_true (by omega)
      go_wp2
      clear hmk hd0
      go_loopw [7, 25] (fun q i wr => ∃ (k g cap : Nat), k ≤ ps.length ∧ q = .slice (some ⟨g, 0, none⟩) k cap ∧ i = .int .i64 k ∧ StrOwn 9 wr w1.heap.size q (partsL ps k) ∧ Below w1.heap.size w1 wr) (fun _ i _ => ps.length - (intOf i).toNat)
      case atStart => exact ⟨0, _, _, Nat.zero_le _, rfl, rfl, HO0.out, below_alloc (Below.refl _ _) _⟩
      case round =>
        obtain ⟨k, pg, pcap, hk, rfl, rfl, ho, hb⟩ := hrel
        have HO := hid ho
        have HB := hid hb
        have hwz := hb.size
        by_cases hkl : k < ps.length
        · obtain ⟨b, g, rfl, hb1, hb2, hc3, hc4, hc5⟩ := HC.out k hkl
          obtain ⟨m1, m2⟩ := HM.out k hkl
          have hpl := partsL_length ps k
          have HS := hid (partsL_succ ps k)
          obtain ⟨p, hp⟩ : ∃ p, ps.getD k (0, 0) = p := ⟨_, rfl⟩
          rw [hp] at hc4 hc5 m1 m2 HS
          obtain ⟨x, hx⟩ : ∃ x, p.1 = x := ⟨_, rfl⟩
          obtain ⟨y, hy⟩ : ∃ y, p.2 = y := ⟨_, rfl⟩
          have HPT : Hid (pairT p = (numL x ++ [60]) ++ numL y) := hid (by rw [pairT, hx, hy])
          rw [hx] at hc4 m1; rw [hy] at hc5 m2
          have hct := (hb.cell (p := ⟨b, k, none⟩) hb1).trans hc3
          have hcx := (hb.cell (p := ⟨g, 0, none⟩) hb2).trans hc4
          have hcy := (hb.cell (p := ⟨g, 1, none⟩) hb2).trans hc5
          have hn1 := numL_length x
          have hn2 := numL_length y
          obtain ⟨X1, hX1⟩ : ∃ X1, numL x ++ [60] = X1 := ⟨_, rfl⟩
          obtain ⟨X2, hX2⟩ : ∃ X2, X1 ++ numL y = X2 := ⟨_, rfl⟩
          have hX1l : X1.length ≤ 3 := by rw [← hX1]; simp; omega
          have hX2l : X2.length ≤ 5 := by rw [← hX2]; simp; omega
          have hadd1 := fun W => run_sBc (numL x) 60 (by omega) W
          have hadd2 := fun W => run_sB X1 (numL y) (by omega) W
          rw [hX1] at hadd1 HPT
          rw [hX2] at hadd2 HPT
          rw [HPT.out] at HS
          have hx10 : x ≤ 10 := by omega
          have hy10 : y ≤ 10 := by omega
          obtain ⟨PL, hPL⟩ : ∃ PL, partsL ps k = PL := ⟨_, rfl⟩
          rw [hPL] at HS HO hpl
          have Hadd1 := hid hadd1
          have Hadd2 := hid hadd2
          clear ho hb hc3 hc4 hc5 hp hx hy hX1 hX2 hPL hadd1 hadd2
          go_wp2_with fail
          have hadd1 := Hadd1.out
          have hadd2 := Hadd2.out
          go_region_law (first | (refine step_append_str rfl _ _ 44 9 rfl Tryd.underlying44 Tryd.info9 w1.heap.size (.slice (some ⟨pg, 0, none⟩) k pcap) PL X2 rfl (by first | exact (HO.out.drew.below (below_alloc (Below.refl _ _) _)) | exact (HO.out.below (below_alloc (Below.refl _ _) _)).drew | exact HO.out.below (below_alloc (Below.refl _ _) _)) wr.heap.size rfl (by first | exact Blk.newAt _ _ _ _ rfl | exact Blk.newAt wr _ _ _ rfl) (by omega) (by simp; omega) ?_; intro g' cap' w' h1 h2 h3 h4; have Hown := hid h1; have HGr := hid h2; clear h1 h2 h3) | (go_simp; go_at_call 29; (with_reducible refine (itoa_lo x _ hx10).mono ?_); rintro e' w4 ⟨rfl, rfl⟩) | (go_simp; go_at_call 29; (with_reducible refine (itoa_lo y _ hy10).mono ?_); rintro e' w4 ⟨rfl, rfl⟩))
          all_goals clear hct hcx hcy hadd1 hadd2
          all_goals go_wp2
          all_goals go_roundw
          all_goals first
            | (simp [intOf]; omega; done)
            | (refine ⟨k + 1, g', cap', by omega, rfl, by go_num, (by rw [HS.out]; have h9 := Hown.out; rw [hpl] at h9; exact h9), ?_⟩; first | exact ((below_alloc HB.out _).drew).grown HGr.out (by simp; omega) (fun z hz => by simp [Value.ownBlock] at hz; subst hz; exact (World.ownsRow.lt HO.out _ rfl).1) | exact (below_alloc HB.out.drew _).grown HGr.out (by simp; omega) (fun z hz => by simp [Value.ownBlock] at hz; subst hz; exact (World.ownsRow.lt HO.out _ rfl).1))
        · obtain rfl : k = ps.length := by omega
          have hplt : pg < wr.heap.size := (World.ownsRow.lt ho pg rfl).2
          have hpcap : ps.length ≤ pcap := by
            rcases ho.2 with ⟨e, -⟩ | ⟨g, cap, cur, e, -, -, h1, -⟩
            · cases e
            · injection e with e1 e2 e3
              rw [partsL_length] at h1
              omega
          have HJ : Hid (Calls Tryd.prog 30 #[.slice (some ⟨pg, 0, none⟩) ps.length pcap, .string { data := #[44] }] wr fun e w' => e = .returned (.string (sB (lsT ps ps.length))) ∧ Below wr.heap.size wr w') := hid (by
            have hX : ((partsL ps ps.length).map sB).length = ps.length := by rw [List.length_map, partsL_length]
            have hJ := Tryd.strings_Join pg 0 pcap ((partsL ps ps.length).map sB) { data := #[44] } wr (fun j x hx => by
              have hj : j < ps.length := by have := (List.getElem?_eq_some_iff.1 hx).1; omega
              have hcell := World.ownsRow.cellAt (by have := HO.out; unfold StrOwn at this; rw [partsL_length] at this; exact this) j (by omega)
              rw [Nat.zero_add, hcell]
              rw [List.getElem?_map] at hx
              unfold strs
              rw [List.getElem?_map]
              cases hq : (partsL ps ps.length)[j]? with
              | none => rw [hq] at hx; cases hx
              | some z => rw [hq] at hx; simp only [Option.map_some, Option.some.injEq] at hx ⊢; rw [hx]) hplt (by omega) (by omega) (by
                show (Lib.join (((partsL ps ps.length).map sB).map (·.data.toList)) [44]).length ≤ _
                rw [join_bytes]
                have := lsT_length ps ps.length
                omega)
            rw [hX] at hJ
            refine hJ.mono fun e w' h => ⟨h.1.trans ?_, h.2⟩
            have e1 : (⟨(Lib.join (((partsL ps ps.length).map sB).map (·.data.toList)) (ByteArray.mk #[44]).data.toList).toArray⟩ : ByteArray) = sB (lsT ps ps.length) := by
              show sB (Lib.join (((partsL ps ps.length).map sB).map (·.data.toList)) [44]) = _
              rw [join_bytes]
            rw [e1])
          have hll := lsT_length ps ps.length
          have HT : Hid (ansPT xs = (numL n ++ [58]) ++ lsT ps ps.length) := hid (by rw [HN.out, textL, if_neg h0])
          obtain ⟨l, hlL⟩ : ∃ l, lsT ps ps.length = l := ⟨_, rfl⟩
          rw [hlL] at HJ hll HT
          obtain ⟨T1, hT1⟩ : ∃ T1, numL n ++ [58] = T1 := ⟨_, rfl⟩
          have hT1l : T1.length ≤ 3 := by rw [← hT1]; simp; omega
          obtain ⟨T2, hT2⟩ : ∃ T2, T1 ++ l = T2 := ⟨_, rfl⟩
          have Ha1 := hid (fun W => run_sBc (numL n) 58 (by omega) W)
          have Ha2 := hid (fun W => run_sB T1 l (by omega) W)
          rw [hT1] at Ha1 HT
          rw [hT2] at Ha2 HT
          clear ho hb hT1 hT2 hlL
          go_wp2_with fail
          refine HJ.out.mono ?_
          rintro e w3 ⟨rfl, hb3⟩
          have HB3 := hid (below_to HB1.out (below_to HB.out hb3))
          have hbx := (HA1.out.below (below_to HB.out hb3)).1
          clear hb3
          go_wp2_with fail
          refine (itoa_lo n _ hl10).mono ?_
          rintro e w4 ⟨rfl, rfl⟩
          have ha1 := Ha1.out
          have ha2 := Ha2.out
          go_wp2
          go_ret2
          exact ⟨ret_sb (by rw [HT.out]) rfl, HB3.out⟩
end Go.Proofs.YtiodligebnnodaaDoor
