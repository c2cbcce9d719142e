/- ShelfJ TextI TextP TextQ -/
import Derived.Shelf.Strings.OnBuilder
import Derived.Test.YtbmhaamenjhjfaaGreatDoorProg
import Derived.Deep.AppendLies
import Derived.BigRegion
import Derived.Deep.RegionLaw
import Derived.Lib.JoinLaws
import Derived.Lib.Join
import Derived.Test.YtbmhaamenjhjfaaGreatDoorPkD06
namespace Go.Proofs
open Go.Shelf
def Tryz.lays156_ren : Go.Shelf.Ren := ⟨fun | 156 => 167 | 165 => 197 | 166 => 198 | 169 => 199 | 240 => 225 | 241 => 226 | 276 => 247 | 277 => 248 | n => n, fun | 31 => 37 | 9 => 9 | 3 => 3 | 4 => 4 | 0 => 0 | 20 => 20 | 72 => 213 | 76 => 175 | 70 => 211 | 37 => 94 | 75 => 58 | 127 => 241 | 164 => 95 | 5 => 5 | 80 => 64 | n => n, fun | n => n⟩
theorem Tryz.lays156 : Go.Proofs.Lays.n156 Tryz.prog Tryz.lays156_ren := {
  mixed := by kernel_rfl
  f156 := Tryz.func167.trans (congrArg some (by kernel_rfl))
  f165 := Tryz.func197.trans (congrArg some (by kernel_rfl))
  f166 := Tryz.func198.trans (congrArg some (by kernel_rfl))
  f169 := Tryz.func199.trans (congrArg some (by kernel_rfl))
  f240 := Tryz.func225.trans (congrArg some (by kernel_rfl))
  f241 := Tryz.func226.trans (congrArg some (by kernel_rfl))
  f276 := Tryz.func247.trans (congrArg some (by kernel_rfl))
  f277 := Tryz.func248.trans (congrArg some (by kernel_rfl))
  t0 := Tryz.underlying0
  a0 := Tryz.isAgg0
  z0 := Tryz.sizeOf0
  v0 := Tryz.zeroValue0
  t3 := Tryz.underlying3
  a3 := Tryz.isAgg3
  z3 := Tryz.sizeOf3
  v3 := Tryz.zeroValue3
  t4 := Tryz.underlying4
  a4 := Tryz.isAgg4
  z4 := Tryz.sizeOf4
  v4 := Tryz.zeroValue4
  t9 := Tryz.underlying9
  a9 := Tryz.isAgg9
  z9 := Tryz.sizeOf9
  v9 := Tryz.zeroValue9
  t20 := Tryz.underlying20
  a20 := Tryz.isAgg20
  z20 := Tryz.sizeOf20
  v20 := Tryz.zeroValue20
  t31 := Tryz.underlying37
  a31 := Tryz.isAgg37
  z31 := Tryz.sizeOf37
  v31 := Tryz.zeroValue37
  t37 := Tryz.underlying94
  a37 := Tryz.isAgg94
  z37 := Tryz.sizeOf94
  v37 := Tryz.zeroValue94
  t70 := Tryz.underlying211
  a70 := Tryz.isAgg211
  z70 := Tryz.sizeOf211
  v70 := Tryz.zeroValue211
  t72 := Tryz.underlying213
  a72 := Tryz.isAgg213
  z72 := Tryz.sizeOf213
  v72 := Tryz.zeroValue213
  t75 := Tryz.underlying58
  a75 := Tryz.isAgg58
  z75 := Tryz.sizeOf58
  v75 := Tryz.zeroValue58
  t76 := Tryz.underlying175
  a76 := Tryz.isAgg175
  z76 := Tryz.sizeOf175
  v76 := Tryz.zeroValue175
  t127 := Tryz.underlying241
  a127 := Tryz.isAgg241
  z127 := Tryz.sizeOf241
  v127 := Tryz.zeroValue241
  t164 := Tryz.underlying95
  a164 := Tryz.isAgg95
  z164 := Tryz.sizeOf95
  v164 := Tryz.zeroValue95 }
theorem Tryz.Builder_Extra_156 : Builder.Extra Tryz.prog Tryz.lays156_ren := {
  sizeBuilder := by kernel_rfl
  liesBuilder := by kernel_rfl
  t5 := Tryz.underlying5
  a5 := Tryz.isAgg5
  z5 := Tryz.sizeOf5
  v5 := Tryz.zeroValue5
  infoByte := by kernel_rfl
  cellsByte := by kernel_rfl
  sizeByte := by kernel_rfl
  neB5 := by decide }
open Go.RowKit in
theorem Tryz.strings_Join (bk o c : Nat) (xs : List ByteArray) (sep : ByteArray) (w : World) (hcells : ∀ (j : Nat) x, xs[j]? = some x → w.cell? ⟨bk, o + j, none⟩ = some (.string x)) (hbk : bk < w.heap.size) (hN : xs.length ≤ 140737488355328) (hcap : xs.length ≤ c) (hlen : (Lib.join (xs.map (·.data.toList)) sep.data.toList).length ≤ 140737488355328) :
    Calls Tryz.prog 167 #[.slice (some ⟨bk, o, none⟩) xs.length c, .string sep] w fun e w' => e = .returned (.string ⟨(Lib.join (xs.map (·.data.toList)) sep.data.toList).toArray⟩) ∧ Below w.heap.size w w' := Any.strings_Join Tryz.lays156 Tryz.Builder_Extra_156 bk o c xs sep w hcells hbk hN hcap hlen
end Go.Proofs
namespace Go.Proofs.YtbmhaamenjhjfaaGreatDoor
open Go.RowKit Go.WideShapes Go.ChangeShapes
set_option linter.unusedVariables false
def partsL (ps : List (Nat × Nat)) (k : Nat) : List (List UInt8) := (List.range k).map fun j => pairT (ps.getD j (0, 0))
theorem partsL_length (ps : List (Nat × Nat)) (k : Nat) : (partsL ps k).length = k := by simp [partsL]
theorem partsL_succ (ps : List (Nat × Nat)) (k : Nat) : partsL ps (k + 1) = partsL ps k ++ [pairT (ps.getD k (0, 0))] := by
  unfold partsL; rw [List.range_succ, List.map_append]; rfl
theorem join_snoc (l : List (List UInt8)) (y sep : List UInt8) (h : l ≠ []) : Lib.join (l ++ [y]) sep = (Lib.join l sep ++ sep) ++ y := by
  cases l with
  | nil => exact absurd rfl h
  | cons x r =>
    rw [List.cons_append, Lib.join_cons, Lib.join_cons]
    simp [Lib.joinTail, List.append_assoc]
theorem join_lsT (ps : List (Nat × Nat)) (k : Nat) : Lib.join (partsL ps k) [44] = lsT ps k := by
  induction k with
  | zero => rfl
  | succ k ih =>
    rw [partsL_succ, lsT]
    by_cases h : 0 < k
    · rw [join_snoc _ _ _ (by intro e; have := congrArg List.length e; rw [partsL_length] at this; simp at this; omega), ih, if_pos h]
    · obtain rfl : k = 0 := by omega
      simp [partsL, lsT, Lib.join_one]
theorem Tryz.info9 : (Tryz.prog.info? 9).map (fun i => (i.zero, i.size, i.bytes)) = some (some (.string { data := #[] }), 1, 16) := by kernel_rfl
def strs (l : List (List UInt8)) : List Value := l.map fun x => Value.string (sB x)
def StrOwn (ts : TypeId) (w : World) (B : Nat) (v : Value) (l : List (List UInt8)) : Prop := w.ownsRow B ts 1 v l.length (strs l)
theorem StrOwn.drew {ts : TypeId} {w : World} {B : Nat} {v : Value} {l : List (List UInt8)} (h : StrOwn ts w B v l) : StrOwn ts w.drew B v l := by
  refine World.ownsRow.kept (row := none) h (grown_of_below (Go.Joins.below_draws _ _ 1) none) ?_
  by_cases hv : v.ownBlock = none
  · exact .inl hv
  · exact .inr hv
theorem StrOwn.below {ts : TypeId} {w w' : World} {B : Nat} {v : Value} {l : List (List UInt8)} (h : StrOwn ts w B v l) (hb : Below w.heap.size w w') : StrOwn ts w' B v l := by
  by_cases hv : v.ownBlock = none
  · exact World.ownsRow.kept h (grown_of_below hb none) (.inl hv)
  · exact World.ownsRow.kept h (grown_of_below hb none) (.inr hv)
theorem step_append_str {P : Program} {ops : Array Oper} {o : Oper} {a : Act} {w : World} {K : Act → World → Prop} {Q : Exit → Act → World → Prop} {E : Prop} (hgd : o.guard = none) (s x : Operand) (t e : TypeId)
    (ho : o.op = .call { callee := .builtin .append, args := #[s, x], argTypes := #[t, t] }) (ht : P.underlying t = some (.slice e)) (hinfo : (P.info? e).map (fun i => (i.zero, i.size, i.bytes)) = some (some (.string { data := #[] }), 1, 16))
    (B : Nat) (v : Value) (l : List (List UInt8)) (y : List UInt8) (hs : a.eval s = v) (hown : StrOwn e w B v l) (g : Nat) (hx : a.eval x = .slice (some ⟨g, 0, none⟩) 1 1) (hg : Blk w g e #[.string (sB y)]) (hlen : l.length < 1048576) (hB : B ≤ w.heap.size)
    (h : ∀ g' cap w', StrOwn e w' B (.slice (some ⟨g', 0, none⟩) (l.length + 1) cap) (l ++ [y]) → w.grownBy w' v.ownBlock → (v.ownBlock = some g' ∨ g' = w.heap.size) → g' < w'.heap.size → K (a.put o.dst (.slice (some ⟨g', 0, none⟩) (l.length + 1) cap)) w') :
    if Region.wanted o (yielded ops a.tmps) = true then Oper.wp P o a w K Q else E := by
  obtain ⟨i0, hi, hz0, hz1, hz2⟩ := info_parts hinfo
  refine step_append_lies w hgd s x t ho B e i0 (.string { data := #[] }) 1 16 ht hi hz0 hz1 hz2 rfl (by decide) v l.length (strs l) hs hown ⟨g, 0, none⟩ 1 1 [.string (sB y)] hx rfl (World.news_of_block (cs := #[.string (sB y)]) hg) (by intro u hu; simp only [List.mem_singleton] at hu; subst hu; rfl) (by decide) (by unfold maxLen; omega) (by omega) hB _ rfl ?_
  intro g' cap w' h1 h2 h3 h4
  exact h g' cap w' (by unfold StrOwn strs; simpa [strs] using h1) h2 h3 h4
theorem join_bytes (ps : List (Nat × Nat)) (k : Nat) : Lib.join (((partsL ps k).map sB).map (·.data.toList)) [44] = lsT ps k := by
  rw [← join_lsT, List.map_map]
  congr 1
  have : ((fun x : ByteArray => x.data.toList) ∘ sB) = id := by funext l; show l.toArray.toList = l; simp
  rw [this, List.map_id]
def ansTX (xs : List Int) : List UInt8 := if good xs then textL xs.length (covPS xs xs.length xs.length) else []
theorem ansTX_no {xs : List Int} (h : good xs = false) : ansTX xs = [] := by simp [ansTX, h]
theorem ansTX_yes {xs : List Int} (h : good xs = true) : ansTX xs = textL xs.length (covPS xs xs.length xs.length) := by simp [ansTX, h]
theorem ret_sb {a b : ByteArray} {c d : Bool} (h : a = b) (k : c = d) : Ending.returned (.tuple #[.string a, .bool c]) = .returned (.tuple #[.string b, .bool d]) := by rw [h, k]
set_option maxRecDepth 100000 in
set_option maxHeartbeats 3200000 in
theorem implPosetText_any (v : Value) (xs : List Int) (w : World) (hv : Ints w v xs) (hl : xs.length ≤ 1048576) :
    Calls Tryz.prog 105 #[.agg #[v]] w fun r w' => r = .returned (.tuple #[.string (sB (ansTX xs)), .bool (good xs)]) ∧ Below w.heap.size w w' := by
  have HV := hid hv
  obtain ⟨A, c, rfl, -⟩ := hv
  have HE : Hid (Value.string { data := #[] } = Value.string (sB [])) := hid rfl
  have HCv := hid (implCoversP_any (.slice A xs.length c) xs (w.alloc (.cells #[.slice A xs.length c] 28)) (HV.out.alloc _) hl)
  cases hg : good xs
  · have HN := hid (ansTX_no hg)
    rw [hg] at HCv
    clear hg
    go_enter Tryz.func105, Tryz.ntmps105
    go_wp2_with fail
    refine HCv.out.mono ?_
    rintro e w1 ⟨u, rfl, ho, hb⟩
    have HB1 := hid (below_to (below_alloc (Below.refl _ w) _) hb)
    clear ho hb
    go_wp2
    go_ret2
    exact ⟨ret_sb (by rw [HN.out]; rfl) rfl, HB1.out⟩
  · have HN := hid (ansTX_yes hg)
    have hl10 := (good_length hg).2
    have HM := hid (fun k (h : k < (covPS xs xs.length xs.length).length) => covPS_at h)
    have HCP := hid (coversP_yes hg)
    have hc2 := coversP_length xs
    rw [hg] at HCv
    rw [HCP.out] at HCv hc2
    obtain ⟨ps, hps⟩ : ∃ ps, covPS xs xs.length xs.length = ps := ⟨_, rfl⟩
    rw [hps] at HM HCv HN hc2
    obtain ⟨n, hn⟩ : ∃ n, xs.length = n := ⟨_, rfl⟩
    rw [hn] at hl10 HV HM HCv HN ⊢
    clear hg hn hps HCP
    go_enter Tryz.func105, Tryz.ntmps105
    go_wp2_with fail
    refine HCv.out.mono ?_
    rintro e w1 ⟨u, rfl, hP, hb⟩
    obtain ⟨pA, pc, rfl, hcs⟩ := hP.shape
    have HC := hid hcs
    have HB1 := hid (below_to (below_alloc (Below.refl _ w) _) hb)
    have HA1 := hid ((At.new w (.slice A n c) 28).below hb)
    have hnn := numL_length n
    clear hP hb hcs HCv
    by_cases h0 : ps.length = 0
    · have h0' : ¬ (0 : Int) < (ps.length : Int) := by omega
      have hbx := HA1.out.1
      have HT : Hid (ansTX xs = (numL n ++ [58]) ++ [45]) := hid (by rw [HN.out, textL, if_pos h0])
      obtain ⟨T1, hT1⟩ : ∃ T1, numL n ++ [58] = T1 := ⟨_, rfl⟩
      have hT1l : T1.length ≤ 3 := by rw [← hT1]; simp; omega
      obtain ⟨T2, hT2⟩ : ∃ T2, T1 ++ [45] = T2 := ⟨_, rfl⟩
      have Ha1 := hid (fun W => run_sBc (numL n) 58 (by omega) W)
      have Ha2 := hid (fun W => run_sBc T1 45 (by omega) W)
      rw [hT1] at Ha1 HT
      rw [hT2] at Ha2 HT
      clear hT1 hT2
      go_wp2_with fail
      refine (itoa_lo n _ hl10).mono ?_
      rintro e w3 ⟨rfl, rfl⟩
      have ha1 := Ha1.out
      have ha2 := Ha2.out
      go_wp2
      go_ret2
      exact ⟨ret_sb (by rw [HT.out]) rfl, HB1.out⟩
    · have h0' : (0 : Int) < (ps.length : Int) := by omega
      have hmk := run_make_room (P := Tryz.prog) 37 9 (.string { data := #[] }) 16 Tryz.underlying37 Tryz.info9 rfl .i64 .i64 ps.length (by omega) (by omega)
      have HO0 : Hid (StrOwn 9 (w1.alloc (.cells (madeCells #[.string { data := #[] }] ps.length) 9)) w1.heap.size (.slice (some ⟨w1.heap.size, 0, none⟩) 0 ps.length) (partsL ps 0)) := hid (World.ownsRow_made w1 _ _ (Nat.le_refl _) (by unfold maxLen; omega) (by rw [size_madeCells, Nat.mul_one]))
      have hd0 : decide (0 < ps.length) = true := decide_eq_true (by omega)
      go_wp2
      clear hmk hd0
      go_loopw [7, 25] (fun q i wr => ∃ (k g cap : Nat), k ≤ ps.length ∧ q = .slice (some ⟨g, 0, none⟩) k cap ∧ i = .int .i64 k ∧ StrOwn 9 wr w1.heap.size q (partsL ps k) ∧ Below w1.heap.size w1 wr) (fun _ i _ => ps.length - (intOf i).toNat)
      case atStart => exact ⟨0, _, _, Nat.zero_le _, rfl, rfl, HO0.out, below_alloc (Below.refl _ _) _⟩
      case round =>
        obtain ⟨k, pg, pcap, hk, rfl, rfl, ho, hb⟩ := hrel
        have HO := hid ho
        have HB := hid hb
        have hwz := hb.size
        by_cases hkl : k < ps.length
        · obtain ⟨b, g, rfl, hb1, hb2, hc3, hc4, hc5⟩ := HC.out k hkl
          obtain ⟨m1, m2⟩ := HM.out k hkl
          have hpl := partsL_length ps k
          have HS := hid (partsL_succ ps k)
          obtain ⟨p, hp⟩ : ∃ p, ps.getD k (0, 0) = p := ⟨_, rfl⟩
          rw [hp] at hc4 hc5 m1 m2 HS
          obtain ⟨x, hx⟩ : ∃ x, p.1 = x := ⟨_, rfl⟩
          obtain ⟨y, hy⟩ : ∃ y, p.2 = y := ⟨_, rfl⟩
          have HPT : Hid (pairT p = (numL x ++ [60]) ++ numL y) := hid (by rw [pairT, hx, hy])
          rw [hx] at hc4 m1; rw [hy] at hc5 m2
          have hct := (hb.cell (p := ⟨b, k, none⟩) hb1).trans hc3
          have hcx := (hb.cell (p := ⟨g, 0, none⟩) hb2).trans hc4
          have hcy := (hb.cell (p := ⟨g, 1, none⟩) hb2).trans hc5
          have hn1 := numL_length x
          have hn2 := numL_length y
          obtain ⟨X1, hX1⟩ : ∃ X1, numL x ++ [60] = X1 := ⟨_, rfl⟩
          obtain ⟨X2, hX2⟩ : ∃ X2, X1 ++ numL y = X2 := ⟨_, rfl⟩
          have hX1l : X1.length ≤ 3 := by rw [← hX1]; simp; omega
          have hX2l : X2.length ≤ 5 := by rw [← hX2]; simp; omega
          have hadd1 := fun W => run_sBc (numL x) 60 (by omega) W
          have hadd2 := fun W => run_sB X1 (numL y) (by omega) W
          rw [hX1] at hadd1 HPT
          rw [hX2] at hadd2 HPT
          rw [HPT.out] at HS
          have hx10 : x ≤ 10 := by omega
          have hy10 : y ≤ 10 := by omega
          obtain ⟨PL, hPL⟩ : ∃ PL, partsL ps k = PL := ⟨_, rfl⟩
          rw [hPL] at HS HO hpl
          have Hadd1 := hid hadd1
          have Hadd2 := hid hadd2
          clear ho hb hc3 hc4 hc5 hp hx hy hX1 hX2 hPL hadd1 hadd2
          go_wp2_with fail
          have hadd1 := Hadd1.out
          have hadd2 := Hadd2.out
          go_region_law (first | (refine step_append_str rfl _ _ 37 9 rfl Tryz.underlying37 Tryz.info9 w1.heap.size (.slice (some ⟨pg, 0, none⟩) k pcap) PL X2 rfl (by first | exact (HO.out.drew.below (below_alloc (Below.refl _ _) _)) | exact (HO.out.below (below_alloc (Below.refl _ _) _)).drew | exact HO.out.below (below_alloc (Below.refl _ _) _)) wr.heap.size rfl (by first | exact Blk.newAt _ _ _ _ rfl | exact Blk.newAt wr _ _ _ rfl) (by omega) (by simp; omega) ?_; intro g' cap' w' h1 h2 h3 h4; have Hown := hid h1; have HGr := hid h2; clear h1 h2 h3) | (go_simp; go_at_call 114; (with_reducible refine (itoa_lo x _ hx10).mono ?_); rintro e' w4 ⟨rfl, rfl⟩) | (go_simp; go_at_call 114; (with_reducible refine (itoa_lo y _ hy10).mono ?_); rintro e' w4 ⟨rfl, rfl⟩))
          all_goals clear hct hcx hcy hadd1 hadd2
          all_goals go_wp2
          all_goals go_roundw
          all_goals first
            | (simp [intOf]; omega; done)
            | (refine ⟨k + 1, g', cap', by omega, rfl, by go_num, (by rw [HS.out]; have h9 := Hown.out; rw [hpl] at h9; exact h9), ?_⟩; first | exact ((below_alloc HB.out _).drew).grown HGr.out (by simp; omega) (fun z hz => by simp [Value.ownBlock] at hz; subst hz; exact (World.ownsRow.lt HO.out _ rfl).1) | exact (below_alloc HB.out.drew _).grown HGr.out (by simp; omega) (fun z hz => by simp [Value.ownBlock] at hz; subst hz; exact (World.ownsRow.lt HO.out _ rfl).1))
        · obtain rfl : k = ps.length := by omega
          have hplt : pg < wr.heap.size := (World.ownsRow.lt ho pg rfl).2
          have hpcap : ps.length ≤ pcap := by
            rcases ho.2 with ⟨e, -⟩ | ⟨g, cap, cur, e, -, -, h1, -⟩
            · cases e
            · injection e with e1 e2 e3
              rw [partsL_length] at h1
              omega
          have HJ : Hid (Calls Tryz.prog 167 #[.slice (some ⟨pg, 0, none⟩) ps.length pcap, .string { data := #[44] }] wr fun e w' => e = .returned (.string (sB (lsT ps ps.length))) ∧ Below wr.heap.size wr w') := hid (by
            have hX : ((partsL ps ps.length).map sB).length = ps.length := by rw [List.length_map, partsL_length]
            have hJ := Tryz.strings_Join pg 0 pcap ((partsL ps ps.length).map sB) { data := #[44] } wr (fun j x hx => by
              have hj : j < ps.length := by have := (List.getElem?_eq_some_iff.1 hx).1; omega
              have hcell := World.ownsRow.cellAt (by have := HO.out; unfold StrOwn at this; rw [partsL_length] at this; exact this) j (by omega)
              rw [Nat.zero_add, hcell]
              rw [List.getElem?_map] at hx
              unfold strs
              rw [List.getElem?_map]
              cases hq : (partsL ps ps.length)[j]? with
              | none => rw [hq] at hx; cases hx
              | some z => rw [hq] at hx; simp only [Option.map_some, Option.some.injEq] at hx ⊢; rw [hx]) hplt (by omega) (by omega) (by
                show (Lib.join (((partsL ps ps.length).map sB).map (·.data.toList)) [44]).length ≤ _
                rw [join_bytes]
                have := lsT_length ps ps.length
                omega)
            rw [hX] at hJ
            refine hJ.mono fun e w' h => ⟨h.1.trans ?_, h.2⟩
            have e1 : (⟨(Lib.join (((partsL ps ps.length).map sB).map (·.data.toList)) (ByteArray.mk #[44]).data.toList).toArray⟩ : ByteArray) = sB (lsT ps ps.length) := by
              show sB (Lib.join (((partsL ps ps.length).map sB).map (·.data.toList)) [44]) = _
              rw [join_bytes]
            rw [e1])
          have hll := lsT_length ps ps.length
          have HT : Hid (ansTX xs = (numL n ++ [58]) ++ lsT ps ps.length) := hid (by rw [HN.out, textL, if_neg h0])
          obtain ⟨l, hlL⟩ : ∃ l, lsT ps ps.length = l := ⟨_, rfl⟩
          rw [hlL] at HJ hll HT
          obtain ⟨T1, hT1⟩ : ∃ T1, numL n ++ [58] = T1 := ⟨_, rfl⟩
          have hT1l : T1.length ≤ 3 := by rw [← hT1]; simp; omega
          obtain ⟨T2, hT2⟩ : ∃ T2, T1 ++ l = T2 := ⟨_, rfl⟩
          have Ha1 := hid (fun W => run_sBc (numL n) 58 (by omega) W)
          have Ha2 := hid (fun W => run_sB T1 l (by omega) W)
          rw [hT1] at Ha1 HT
          rw [hT2] at Ha2 HT
          clear ho hb hT1 hT2 hlL
          go_wp2_with fail
          refine HJ.out.mono ?_
          rintro e w3 ⟨rfl, hb3⟩
          have HB3 := hid (below_to HB1.out (below_to HB.out hb3))
          have hbx := (HA1.out.below (below_to HB.out hb3)).1
          clear hb3
          go_wp2_with fail
          refine (itoa_lo n _ hl10).mono ?_
          rintro e w4 ⟨rfl, rfl⟩
          have ha1 := Ha1.out
          have ha2 := Ha2.out
          go_wp2
          go_ret2
          exact ⟨ret_sb (by rw [HT.out]) rfl, HB3.out⟩
end Go.Proofs.YtbmhaamenjhjfaaGreatDoor
namespace Go.Proofs.YtbmhaamenjhjfaaGreatDoor
open Go.RowKit Go.WideShapes Go.ChangeShapes
set_option linter.unusedVariables false
theorem sB_extract (l : List UInt8) (f k : Nat) : (sB l).extract f k = sB ((l.drop f).take (k - f)) := by
  apply ByteArray.ext
  rw [ByteArray.data_extract]
  show l.toArray.extract f k = ((l.drop f).take (k - f)).toArray
  simp [List.take_drop]
def splN (b : UInt8) (l : List UInt8) : Nat → List (List UInt8) × Nat
  | 0 => ([], 0)
  | k + 1 => if l.getD k 0 = b then ((splN b l k).1 ++ [(l.drop (splN b l k).2).take (k - (splN b l k).2)], k + 1) else splN b l k
def splitL (b : UInt8) (l : List UInt8) : List (List UInt8) := (splN b l l.length).1 ++ [l.drop (splN b l l.length).2]
theorem splN_len (b : UInt8) (l : List UInt8) (k : Nat) : (splN b l k).1.length ≤ k ∧ (splN b l k).2 ≤ k := by
  induction k with
  | zero => simp [splN]
  | succ k ih =>
    unfold splN
    split
    · simp only [List.length_append, List.length_singleton]; omega
    · omega
theorem StrOwn.nil (ts : TypeId) (w : World) (B : Nat) : StrOwn ts w B (.slice none 0 0) [] := World.ownsRow_nil w B ts 1
theorem StrOwn.shape3 {ts : TypeId} {w : World} {B : Nat} {v : Value} {l : List (List UInt8)} (h : StrOwn ts w B v l) : ∃ A c, v = .slice A l.length c := by
  rcases h.2 with ⟨rfl, h0⟩ | ⟨g, cap, cur, rfl, _⟩
  · exact ⟨none, 0, by rw [h0]⟩
  · exact ⟨_, _, rfl⟩
theorem wpList_append_str {P : Program} {w W : World} {ops : Array Oper} {rest : List Oper} {o : Oper} {ac : Act} {Q : Exit → Act → World → Prop} (hgd : o.guard = none) (s x : Operand) (t ts : TypeId)
    (ho : o.op = .call { callee := .builtin .append, args := #[s, x], argTypes := #[t, t] }) (ht : P.underlying t = some (.slice ts)) (hinfo : (P.info? ts).map (fun i => (i.zero, i.size, i.bytes)) = some (some (.string { data := #[] }), 1, 16))
    (B : Nat) (v : Value) (l : List (List UInt8)) (y : List UInt8) (hs : ac.eval s = v) (hown : StrOwn ts w B v l)
    (hW : W = w.alloc (.cells #[.string (sB y)] ts)) (hx : ac.eval x = .slice (some ⟨w.heap.size, 0, none⟩) 1 1) (hlen : l.length < 2000000) (hB : B ≤ w.heap.size)
    (h : ∀ v' w', StrOwn ts w' B v' (l ++ [y]) → Below B w w' → wpList P ops Q rest (ac.put o.dst v') w') : wpList P ops Q (o :: rest) ac W := by
  subst hW
  obtain ⟨i0, hi, hz0, hz1, hz2⟩ := info_parts hinfo
  refine wpList_append_own _ hgd s x t ho B ts i0 (.string { data := #[] }) 1 16 ht hi hz0 hz1 hz2 rfl (by decide) v l.length (strs l) hs (World.ownsRow.alloc hown _) ⟨w.heap.size, 0, none⟩ 1 1 [.string (sB y)] hx rfl ?_ ?_ ?_ ?_ ?_ ?_
  · intro j u hj
    match j, hj with
    | 0, hj =>
      simp only [List.getElem?_cons_zero, Option.some.injEq] at hj
      subst hj
      exact (Blk.new w ts #[.string (sB y)]).cell 0
    | j + 1, hj => simp at hj
  · intro u hu
    simp only [List.mem_singleton] at hu
    subst hu; rfl
  · unfold maxLen; omega
  · omega
  · simp; omega
  · intro v' w' h4 h5 _
    refine h v' w' ?_ ?_
    · unfold StrOwn strs
      rw [List.length_append, List.map_append]
      exact h4
    · have hb : Below B w (w.alloc (.cells #[.string (sB y)] ts)) := (Below.refl _ _).alloc hB _
      exact hb.grown h5 (by simp; omega) fun k hk => (World.ownsRow.lt hown k hk).1
set_option maxRecDepth 100000 in
theorem l1Split_any (l : List UInt8) (b : UInt8) (w : World) (hl : l.length ≤ 1048576) :
    Calls Tryz.prog 28 #[.string (sB l), .int .u8 (b.toNat : Int)] w fun (r : Ending) w' => ∃ u, r = Ending.returned u ∧ StrOwn 9 w' w.heap.size u (splitL b l) ∧ Below w.heap.size w w' := by
  have hsz := sB_size l
  have HG := hid (sB_get l)
  have HX := hid (sB_extract l)
  obtain ⟨s, hs⟩ : ∃ s, sB l = s := ⟨_, rfl⟩
  rw [hs] at hsz HG HX ⊢
  obtain ⟨c, hc⟩ : ∃ c, b.toNat = c := ⟨_, rfl⟩
  rw [hc]
  have HCb := hid hc
  clear hs hc
  go_enter Tryz.func28, Tryz.ntmps28
  go_wp2
  go_loopw [5, 6, 7] (fun q f i wr => ∃ (k n : Nat) (P : List (List UInt8)), k ≤ l.length ∧ i = .int .i64 k ∧ f = .int .i64 n ∧ Hid (splN b l k = (P, n)) ∧ P.length ≤ k ∧ n ≤ k ∧ StrOwn 9 wr w.heap.size q P ∧ Below w.heap.size w wr) (fun _ _ i _ => l.length - (intOf i).toNat)
  case atStart => exact ⟨0, 0, [], Nat.zero_le _, rfl, rfl, hid rfl, by simp, Nat.le_refl _, StrOwn.nil _ _ _, Below.refl _ _⟩
  case round =>
    obtain ⟨k, n, P, hk, rfl, rfl, HS, hP, hn, ho, hb⟩ := hrel
    have HO := hid ho
    have HB := hid hb
    have hbz := hb.size
    obtain ⟨vA, vc, rfl⟩ := ho.shape3
    clear ho hb
    by_cases hkl : k < l.length
    · obtain ⟨d, hd⟩ : ∃ d, (l.getD k 0).toNat = d := ⟨_, rfl⟩
      have hik : ∀ h, ((s[k]'h).toNat : Int) = (d : Int) := fun h => by rw [HG.out k h, hd]
      have hkz : k < s.size := by omega
      by_cases he : l.getD k 0 = b
      · have hdc : d = c := by rw [← hd, he, HCb.out]
        have HS2 : Hid (splN b l (k + 1) = (P ++ [(l.drop n).take (k - n)], k + 1)) := hid (by rw [splN, if_pos he, HS.out])
        obtain ⟨Y, hY⟩ : ∃ Y, (l.drop n).take (k - n) = Y := ⟨_, rfl⟩
        have hex : s.extract n k = sB Y := by rw [HX.out, hY]
        rw [hY] at HS2
        subst hdc
        clear hd he hY
        go_wp2_with (at_builtin; refine wpList_append_str rfl _ _ 37 9 rfl Tryz.underlying37 Tryz.info9 w.heap.size _ P Y rfl HO.out rfl rfl (by omega) hbz ?_; intro q2 w2 hp2 hb2)
        go_roundw
        case rel => exact ⟨k + 1, k + 1, P ++ [Y], by omega, by go_num, by go_num, HS2, by simp; omega, Nat.le_refl _, hp2, HB.out.trans hb2⟩
        case measure => simp [intOf]; omega
      · have hdc : ((d : Int) == (c : Int)) = false := by
          rw [beq_eq_false_iff_ne]
          intro e
          apply he
          apply UInt8.toNat_inj.1
          rw [hd, HCb.out]; omega
        have HS2 : Hid (splN b l (k + 1) = (P, n)) := hid (by rw [splN, if_neg he, HS.out])
        clear hd he
        go_wp2
        go_roundw
        case rel => exact ⟨k + 1, n, P, by omega, by go_num, rfl, HS2, by omega, by omega, HO.out, HB.out⟩
        case measure => simp [intOf]; omega
    · obtain rfl : k = l.length := by omega
      have HT : Hid (splitL b l = P ++ [l.drop n]) := hid (by unfold splitL; rw [HS.out])
      obtain ⟨Y, hY⟩ : ∃ Y, l.drop n = Y := ⟨_, rfl⟩
      have hex : s.extract n s.size = sB Y := by
        rw [HX.out, hsz, ← hY, List.take_of_length_le (by simp)]
      have hex2 : s.extract n l.length = sB Y := by rw [← hsz]; exact hex
      rw [hY] at HT
      clear hY
      go_wp2_with (at_builtin; refine wpList_append_str rfl _ _ 37 9 rfl Tryz.underlying37 Tryz.info9 w.heap.size _ P Y rfl HO.out rfl rfl (by omega) hbz ?_; intro q2 w2 hp2 hb2)
      go_ret
      exact ⟨_, rfl, by rw [HT.out]; exact hp2, HB.out.trans hb2⟩
end Go.Proofs.YtbmhaamenjhjfaaGreatDoor
namespace Go.Proofs.YtbmhaamenjhjfaaGreatDoor
open Go.RowKit Go.WideShapes Go.ChangeShapes
set_option linter.unusedVariables false
def splR (b : UInt8) : List UInt8 → List (List UInt8)
  | [] => [[]]
  | c :: r => if c = b then [] :: splR b r else match splR b r with
    | [] => [[c]]
    | h :: t => (c :: h) :: t
theorem splR_cons {b : UInt8} {x : List UInt8} (h : b ∉ x) (y : List UInt8) : splR b (x ++ b :: y) = x :: splR b y := by
  induction x with
  | nil => simp [splR]
  | cons c x ih =>
    simp only [List.mem_cons, not_or] at h
    rw [List.cons_append, splR, if_neg (Ne.symm h.1), ih h.2]
theorem splR_no {b : UInt8} {x : List UInt8} (h : b ∉ x) : splR b x = [x] := by
  induction x with
  | nil => rfl
  | cons c x ih =>
    simp only [List.mem_cons, not_or] at h
    rw [splR, if_neg (Ne.symm h.1), ih h.2]
theorem splN_inv (b : UInt8) (l : List UInt8) (k : Nat) (hk : k ≤ l.length) : splR b l = (splN b l k).1 ++ splR b (l.drop (splN b l k).2) ∧ b ∉ (l.drop (splN b l k).2).take (k - (splN b l k).2) := by
  induction k with
  | zero => simp [splN]
  | succ k ih =>
    obtain ⟨h1, h2⟩ := ih (by omega)
    obtain ⟨-, hn⟩ := splN_len b l k
    have hkl : k < l.length := by omega
    have hget : l.getD k 0 = l[k] := by simp [List.getD, hkl]
    generalize hP : (splN b l k).1 = P at *
    generalize hq : (splN b l k).2 = n at *
    have hcut : l.drop n = (l.drop n).take (k - n) ++ l[k] :: l.drop (k + 1) := by
      have e1 : (l.drop n).drop (k - n) = l.drop k := by rw [List.drop_drop]; congr 1; omega
      have e2 : l.drop k = l[k] :: l.drop (k + 1) := List.drop_eq_getElem_cons hkl
      rw [← e2, ← e1, List.take_append_drop]
    unfold splN
    split
    · rename_i hb
      rw [hget] at hb
      simp only [hP, hq]
      refine ⟨?_, by simp⟩
      rw [h1]
      conv => lhs; rw [hcut, hb, splR_cons h2]
      rw [List.append_assoc]; rfl
    · rename_i hb
      rw [hget] at hb
      rw [hP, hq]
      refine ⟨h1, ?_⟩
      have e3 : k + 1 - n = (k - n) + 1 := by omega
      have hlt : k - n < (l.drop n).length := by rw [List.length_drop]; omega
      rw [e3, List.take_succ_eq_append_getElem hlt]
      intro hm
      rw [List.mem_append] at hm
      rcases hm with hm | hm
      · exact h2 hm
      · simp only [List.mem_singleton, List.getElem_drop] at hm
        have e4 : n + (k - n) = k := by omega
        simp only [e4] at hm
        exact hb hm.symm
theorem splitL_eq (b : UInt8) (l : List UInt8) : splitL b l = splR b l := by
  obtain ⟨h1, h2⟩ := splN_inv b l l.length (Nat.le_refl _)
  have hn := (splN_len b l l.length).2
  unfold splitL
  rw [h1]
  have e : (l.drop (splN b l l.length).2).take (l.length - (splN b l l.length).2) = l.drop (splN b l l.length).2 := List.take_of_length_le (by simp)
  rw [e] at h2
  rw [splR_no h2]
theorem readL_numL (n : Nat) (h : n ≤ 10) : readL (numL n) = n := by
  rcases (by omega : n = 0 ∨ n = 1 ∨ n = 2 ∨ n = 3 ∨ n = 4 ∨ n = 5 ∨ n = 6 ∨ n = 7 ∨ n = 8 ∨ n = 9 ∨ n = 10) with rfl | rfl | rfl | rfl | rfl | rfl | rfl | rfl | rfl | rfl | rfl <;> decide +kernel
theorem numL_free (n : Nat) (h : n ≤ 10) : (58 : UInt8) ∉ numL n ∧ (44 : UInt8) ∉ numL n ∧ (60 : UInt8) ∉ numL n ∧ (45 : UInt8) ∉ numL n := by
  rcases (by omega : n = 0 ∨ n = 1 ∨ n = 2 ∨ n = 3 ∨ n = 4 ∨ n = 5 ∨ n = 6 ∨ n = 7 ∨ n = 8 ∨ n = 9 ∨ n = 10) with rfl | rfl | rfl | rfl | rfl | rfl | rfl | rfl | rfl | rfl | rfl <;> decide +kernel
theorem split_pair {p : Nat × Nat} (h1 : p.1 ≤ 10) (h2 : p.2 ≤ 10) : splitL 60 (pairT p) = [numL p.1, numL p.2] := by
  rw [splitL_eq, pairT, List.append_assoc, List.singleton_append, splR_cons (numL_free _ h1).2.2.1, splR_no (numL_free _ h2).2.2.1]
theorem pair_free {p : Nat × Nat} (h1 : p.1 ≤ 10) (h2 : p.2 ≤ 10) : (58 : UInt8) ∉ pairT p ∧ (44 : UInt8) ∉ pairT p := by
  obtain ⟨a1, a2, -⟩ := numL_free _ h1
  obtain ⟨b1, b2, -⟩ := numL_free _ h2
  unfold pairT
  constructor
  · simp only [List.mem_append, List.mem_singleton, not_or]; exact ⟨⟨a1, by decide⟩, b1⟩
  · simp only [List.mem_append, List.mem_singleton, not_or]; exact ⟨⟨a2, by decide⟩, b2⟩
theorem splR_ne (b : UInt8) (x : List UInt8) : splR b x ≠ [] := by
  cases x with
  | nil => simp [splR]
  | cons c x =>
    unfold splR
    split
    · simp
    · split <;> simp
theorem splR_append (b : UInt8) (x y : List UInt8) : splR b (x ++ b :: y) = splR b x ++ splR b y := by
  induction x with
  | nil => simp [splR]
  | cons c x ih =>
    rw [List.cons_append, splR, splR]
    by_cases e : c = b
    · rw [if_pos e, if_pos e, ih]; rfl
    · rw [if_neg e, if_neg e, ih]
      cases hx : splR b x with
      | nil => exact absurd hx (splR_ne b x)
      | cons h t => simp
theorem split_list {ps : List (Nat × Nat)} (hp : ∀ k, k < ps.length → (ps.getD k (0, 0)).1 ≤ 10 ∧ (ps.getD k (0, 0)).2 ≤ 10) (k : Nat) (h1 : 1 ≤ k) (hk : k ≤ ps.length) : splitL 44 (lsT ps k) = partsL ps k := by
  rw [splitL_eq]
  induction k with
  | zero => omega
  | succ k ih =>
    obtain ⟨a, b⟩ := hp k (by omega)
    rw [lsT, partsL_succ]
    by_cases h0 : 0 < k
    · rw [if_pos h0, List.append_assoc, List.singleton_append, splR_append, ih (by omega) (by omega), splR_no (pair_free a b).2]
    · obtain rfl : k = 0 := by omega
      rw [if_neg h0]
      simp only [lsT, List.nil_append]
      rw [splR_no (pair_free a b).2]
      simp [partsL]
theorem lsT_free {ps : List (Nat × Nat)} (hp : ∀ k, k < ps.length → (ps.getD k (0, 0)).1 ≤ 10 ∧ (ps.getD k (0, 0)).2 ≤ 10) (k : Nat) (hk : k ≤ ps.length) : (58 : UInt8) ∉ lsT ps k := by
  induction k with
  | zero => simp [lsT]
  | succ k ih =>
    obtain ⟨a, b⟩ := hp k (by omega)
    have h1 := ih (by omega)
    have h2 := (pair_free a b).1
    unfold lsT
    split
    · simp only [List.mem_append, List.mem_singleton, not_or]
      exact ⟨⟨h1, by decide⟩, h2⟩
    · simp only [List.mem_append, not_or]
      exact ⟨h1, h2⟩
theorem split_text {n : Nat} {ps : List (Nat × Nat)} (hn : n ≤ 10) (hp : ∀ k, k < ps.length → (ps.getD k (0, 0)).1 ≤ 10 ∧ (ps.getD k (0, 0)).2 ≤ 10) :
    splitL 58 (textL n ps) = [numL n, if ps.length = 0 then [45] else lsT ps ps.length] := by
  rw [splitL_eq, textL, List.append_assoc, List.singleton_append, splR_cons (numL_free n hn).1, splR_no]
  split
  · decide
  · exact lsT_free hp _ (Nat.le_refl _)
theorem lsT_dash {ps : List (Nat × Nat)} (k : Nat) (h1 : 1 ≤ k) : lsT ps k ≠ [45] := by
  intro h
  have h2 := congrArg List.length h
  obtain ⟨j, rfl⟩ : ∃ j, k = j + 1 := ⟨k - 1, by omega⟩
  generalize hpj : ps.getD j (0, 0) = p at *
  have h3 : 3 ≤ (pairT p).length := by
    have a : ∀ m, 1 ≤ (numL m).length := fun m => by unfold numL; split <;> simp
    have := a p.1
    have := a p.2
    unfold pairT
    simp only [List.length_append, List.length_singleton]
    omega
  unfold lsT at h2
  rw [List.length_append, hpj] at h2
  simp only [List.length_singleton] at h2
  omega
theorem fout_up {n : Nat} {ps : List (Nat × Nat)} (hp : UpPairs n ps) (r : Nat) : r < n → ∀ b, (fout ps n r).testBit b = true → b < r ∧ ∀ c, (fout ps n b).testBit c = true → (fout ps n r).testBit c = true := by
  induction r using Nat.strongRecOn with
  | _ r ih =>
    intro hr b hb
    obtain ⟨t, ht, h1, h2⟩ := (fout_bit hp hr b).1 hb
    have hup := hp t ht
    have step : ∀ c, (fout ps n (ps.getD t (0, 0)).1).testBit c = true → (fout ps n r).testBit c = true := fun c hc => (fout_bit hp hr c).2 ⟨t, ht, h1, .inr hc⟩
    rcases h2 with h2 | h2
    · subst h2
      exact ⟨by omega, step⟩
    · obtain ⟨h3, h4⟩ := ih _ (by omega) (by omega) b h2
      exact ⟨by omega, fun c hc => step c (h4 c hc)⟩
theorem good_from {n : Nat} {ps : List (Nat × Nat)} (hp : UpPairs n ps) (h1 : 1 ≤ n) (h2 : n ≤ 10) : good (fromL n ps) = true := by
  have hlen : (fromL n ps).length = n := by unfold fromL; rw [mkL_length]
  have hget : ∀ i, i < n → (fromL n ps).getD i 0 = (fout ps n i : Int) := fun i hi => by unfold fromL; rw [mkL_getD hi]
  refine good_of (by omega) (by omega) fun j hj => ?_
  rw [hlen] at hj
  have hlt : fout ps n j < 2 ^ j := by
    apply Nat.lt_pow_two_of_testBit
    intro i hi
    rw [Bool.eq_false_iff]
    intro h
    have := (fout_up hp j hj i h).1
    omega
  unfold okAt
  rw [hget j hj]
  simp only [Bool.and_eq_true, decide_eq_true_eq, Int.toNat_natCast]
  refine ⟨⟨by omega, by omega⟩, (holdsIdeal_iff _ _).2 fun e he hb => ?_⟩
  rw [hlen] at he
  rw [hget e he, Int.toNat_natCast, sub_eq_zero]
  exact (fout_up hp j hj e hb).2
end Go.Proofs.YtbmhaamenjhjfaaGreatDoor
