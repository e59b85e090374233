/- reachedFrom: along any graph, by whatever function that tells where places lead. -/
import Derived.Test.YtiokmebmimgdjaaGreatMb
set_option linter.unusedSimpArgs false
set_option linter.unusedVariables false
namespace Go.Proofs.YtiokmebmimgdjaaGreat.Wk
open Go.RowKit Pl Ft Mm In C2 Im Sw

/-- What the function does that tells where places lead: arguments by the place. -/
structure Leads (G : Nat → List Int) (S : List Int) (N : Nat) (F : Nat) (args : Nat → Array Value) (B : Nat) (P : Nat → Prop) (I : List Nat → World → Prop) : Prop where
  call : ∀ (ms : List Nat) (p : Nat) (w : World), I ms w → B ≤ w.heap.size → p ≤ N → p ∉ ms → Rc G S p → Calls Tryz.prog F (args p) w fun e w' => ∃ v, e = .returned v ∧ w'.ownsRow w.heap.size 3 1 v (G p).length (ints (G p)) ∧ I (ms ++ [p]) w' ∧ Only P w w'
  enter : ∀ (xs : Array Value) (w : World), (callFunc F xs).run Tryz.prog w = .ok (.enter F xs) w
  on : ∀ ms w w', I ms w → Below B w w' → I ms w'
  far : ∀ k, P k → k < B
def RfPost (G : Nat → List Int) (S : List Int) (P : Nat → Prop) (I : List Nat → World → Prop) (w : World) (e : Ending) (w' : World) : Prop :=
  ∃ (gm : Nat) (ms : List Nat), e = .returned (.map (some gm)) ∧ SetAt w' gm ms ∧ (∀ p, p ∈ ms ↔ Rc G S p) ∧ ms.Nodup ∧ I ms w' ∧ Only P w w' ∧ w.heap.size ≤ gm
def setSz (w : World) (g : Nat) : Nat := match w.heap[g]? with | some (.map es _) => es.size | _ => 0
theorem setSz_eq {w : World} {g : Nat} {ms : List Nat} (h : SetAt w g ms) : setSz w g = ms.length := by
  unfold setSz
  unfold SetAt at h
  rw [h]
  simp [bEnts]
def lenOf : Value → Nat
  | .slice _ n _ => n
  | _ => 0
structure RfRel (G : Nat → List Int) (S : List Int) (D : Nat) (P : Nat → Prop) (I : List Nat → World → Prop) (w : World) (ms : List Nat) (ahead : List Int) (v : Value) (wr : World) : Prop where
  inv : WL G S ms ahead
  map : SetAt wr w.heap.size ms
  own : wr.ownsRow (w.heap.size + 1) 3 1 v ahead.length (ints ahead)
  st : I ms wr
  len : ahead.length ≤ D * ms.length + S.length
  only : Only P w wr
theorem only_fresh {p : Nat → Prop} {B : Nat} {w w1 w2 : World} (h : Only p w w1) (hb : Below B w1 w2) (hB : w.heap.size ≤ B) : Only p w w2 :=
  ⟨hb.os.trans h.os, hb.tape.trans h.tape, hb.output.trans h.output, Nat.le_trans h.size hb.size, fun k hk hne => (hb.block k (by omega)).trans (h.block k hk hne)⟩
theorem rf_measure {D N m a l : Nat} (hm : m + 1 ≤ N + 1) (hl : l ≤ D) : (D + 1) * (N + 1 - (m + 1)) + (a + l) < (D + 1) * (N + 1 - m) + (a + 1) := by
  obtain ⟨k, hk⟩ : ∃ k, N + 1 - (m + 1) = k := ⟨_, rfl⟩
  rw [hk, show N + 1 - m = k + 1 by omega, Nat.mul_succ]
  omega
theorem rf_len {D m a l s : Nat} (h : a + 1 ≤ D * m + s) (hl : l ≤ D) : a + l ≤ D * (m + 1) + s := by
  rw [Nat.mul_succ]
  omega
set_option maxRecDepth 100000 in
set_option maxHeartbeats 4000000 in
theorem reached_m {G : Nat → List Int} {S : List Int} {N D F : Nat} {r : Value} {P : Nat → Prop} {I : List Nat → World → Prop} (hG : GBd G S N D) (hcap : D * (N + 1) + S.length ≤ 100000000) (hS : S.length ≤ 1000000) (hN : N ≤ 100000000)
    (B0 : Nat) (v : Value) (w : World) (hL : Leads G S N F (fun p => #[r, .int .i64 p]) w.heap.size P I) (ho : w.ownsRow B0 3 1 v S.length (ints S)) (hI : I [] w) :
    Calls Tryz.prog 50 #[v, .func (.func F) #[r] #[]] w (RfPost G S P I w) := by
  obtain ⟨s, c, rfl⟩ := own_slice ho
  have HG := hid hG
  have HL := hid hL
  have HO := hid ho
  have HI := hid hI
  clear hG hL ho hI
  have hmm := @run_makeMap Tryz.prog
  go_enter Tryz.func50, Tryz.ntmps50
  go_upto_region 2 with fail
  clear hmm
  have HM1 := hid (setAt_new w)
  have HB1 := hid ((Below.refl w.heap.size w).alloc (Nat.le_refl _) (.map #[] 0))
  have HO1 := hid (HO.out.alloc (.map #[] 0))
  have hz1 : (w.alloc (.map #[] 0)).heap.size = w.heap.size + 1 := by simp
  generalize w.alloc (.map #[] 0) = w1 at HM1 HB1 HO1 hz1 ⊢
  go_wp2_with fail
  refine (clone_c S B0 _ w1 HO1.out hS).mono ?_
  rintro e w2 ⟨v2, rfl, hown2, hb2⟩
  rw [hz1] at hown2
  have HM2 := hid (HM1.out.on hb2)
  have HB2 := hid (HB1.out.trans (hb2.mono HB1.out.size))
  have HI2 := hid (HL.out.on _ _ _ HI.out HB2.out)
  have HO2 := hid hown2
  obtain ⟨s2, c2, rfl⟩ := own_slice hown2
  clear hown2 hb2
  go_wp2_with fail
  go_loopw [6, 7, 8] (fun v _ _ wr => ∃ (ms : List Nat) (ahead : List Int), RfRel G S D P I w ms ahead v wr) (fun v _ _ wr => (D + 1) * (N + 1 - setSz wr w.heap.size) + lenOf v)
  case atStart =>
    exact ⟨[], S, WL.begin HG.out, HM2.out, HO2.out, HI2.out, by simp, .of_below HB2.out⟩
  case round =>
    obtain ⟨ms, ahead, hrel⟩ := hrel
    have HR := hid hrel
    have hll := hrel.len
    have hml := hrel.inv.len HG.out
    have hsz := hrel.only.size
    have hmul : D * ms.length ≤ D * (N + 1) := Nat.mul_le_mul_left D hml
    rcases List.eq_nil_or_concat ahead with rfl | ⟨init, a, rfl⟩
    · obtain ⟨sv, cv, rfl⟩ := own_slice hrel.own
      clear hrel hmul hll
      go_wp2_with fail
      go_ret
      exact ⟨w.heap.size, ms, rfl, HR.out.map, HR.out.inv.done, HR.out.inv.nd, HR.out.st, HR.out.only, Nat.le_refl _⟩
    · rw [List.concat_eq_append] at *
      obtain ⟨p, rfl, hrc⟩ := hrel.inv.ra a (by simp)
      have hpN := hrc.le HG.out
      have HRc := hid hrc
      have HO := hid (show wr.ownsRow (w.heap.size + 1) 3 1 _ (init.length + 1) (ints init ++ [.int .i64 p]) from by have h := hrel.own; rw [List.length_append] at h; simpa [ints] using h)
      obtain ⟨g, cap, rfl, hg, hgl⟩ := own_addr HO.out (by omega)
      have HP := hid (own_pop HO.out)
      have hcp : init.length + 1 ≤ cap := by
        rcases HO.out.2 with ⟨h, _⟩ | ⟨_, _, _, h, _, _, hc, _⟩
        · cases h
        · cases h; exact hc
      have hcell : wr.cell? ⟨g, init.length, none⟩ = some (.int .i64 p) := by
        have h := HO.out.cells (g := g) rfl init.length (.int .i64 p) (by simp [ints])
        have e : (⟨g, 0, none⟩ : Addr).add init.length = ⟨g, init.length, none⟩ := by unfold Addr.add; split <;> simp_all
        rwa [e] at h
      simp only [List.length_append, List.length_singleton] at hll
      have hil : init.length ≤ 100000000 := by omega
      have hmem : ∀ q : Int, q ∈ init ++ [(p : Int)] ↔ q = (p : Int) ∨ q ∈ init := fun q => by simp [or_comm]
      have HMem := hid hmem
      have HLen := hid hll
      have HMl := hid hml
      have HMul := hid hmul
      clear hrel hrc hmem hmul hll hml
      by_cases hin : p ∈ ms
      · have hlk := set_yes HR.out.map hin
        have HIn := hid hin
        clear hin
        go_wp2_with fail
        go_roundw
        case rel =>
          exact ⟨ms, init, HR.out.inv.again HMem.out HIn.out, HR.out.map, HP.out, HR.out.st, by have := HLen.out; omega, HR.out.only⟩
        case measure =>
          simp only [lenOf]
          omega
      · have hlk := set_no HR.out.map hin
        have hput := run_setPut HR.out.map hin
        have HIn := hid hin
        clear hin
        go_upto_region 9 with fail
        clear hput hlk hcell
        have hm4 := setSet_at (w := wr) (b := w.heap.size) HR.out.map.lt (ms ++ [p])
        have ho4 := setSet_only wr w.heap.size (ms ++ [p])
        generalize setSet wr w.heap.size (ms ++ [p]) = w4 at hm4 ho4 ⊢
        have HM4 := hid hm4
        have HB4 := hid (ho4.below (B := w.heap.size) hsz (fun k hk => by omega))
        have HP4 := hid (own_only HP.out (fun k hk => by have hk2 : g = k := (by simpa [Value.ownBlock] using hk); omega) ho4)
        have HI4 := hid (HL.out.on _ _ _ HR.out.st HB4.out)
        have HOn4 := hid (only_fresh HR.out.only HB4.out (Nat.le_refl _))
        have hz4 := ho4.size
        have HStep := hid (HR.out.inv.meet HG.out (rest' := init ++ G p) HMem.out HIn.out (fun q => by simp))
        have hgl9 := HG.out.len p hpN
        have HD := hid hgl9
        have hen := HL.out.enter
        clear hm4 ho4
        go_wp2_with fail
        refine (HL.out.call ms p w4 HI4.out (by omega) hpN HIn.out HRc.out).mono ?_
        rintro en w5 ⟨v5, rfl, hown5, hI5, honly5⟩
        obtain ⟨l, hl⟩ : ∃ l, G p = l := ⟨_, rfl⟩
        have HGl := hid hl
        rw [hl] at hown5 hgl9
        have HI5 := hid hI5
        have HM5 := hid (HM4.out.only (fun h => by have := HL.out.far _ h; omega) honly5)
        have HP5 := hid (own_only HP4.out (fun k hk h => by have hk2 : g = k := (by simpa [Value.ownBlock] using hk); have := HL.out.far _ h; omega) honly5)
        have HOn5 := hid (HOn4.out.trans honly5)
        obtain ⟨s5, c5, rfl⟩ := own_slice hown5
        have HSrc := hid (SrcAt.of_rd (Rd.of_own hown5))
        have hz5 := honly5.size
        have hlD : l.length ≤ 100000000 := by
          have h1 : D * 1 ≤ D * (N + 1) := Nat.mul_le_mul_left D (by omega)
          omega
        clear hown5 hI5 honly5 hl hgl9 hen
        go_wp2_with (at_builtin; refine app_ints _ rfl _ _ rfl (w.heap.size + 1) init l _ rfl HP5.out _ _ _ rfl rfl HSrc.out (by omega) (by omega) ?_)
        intro v6 w6 hg6
        have HO6 := hid hg6.own
        have HM6 := hid (show SetAt w6 w.heap.size (ms ++ [p]) from (hg6.far w.heap.size (by have := HM5.out.lt; omega) (by intro h; have h2 : g = w.heap.size := (by simpa [Value.ownBlock] using h); omega)).trans HM5.out)
        have hb6 := hg6.bel.mono (show w.heap.size ≤ w.heap.size + 1 by omega)
        have HI6 := hid (HL.out.on _ _ _ HI5.out hb6)
        have HOn6 := hid (only_fresh HOn5.out hb6 (Nat.le_refl _))
        obtain ⟨s6, c6, rfl⟩ := own_slice hg6.own
        clear hg6 hb6
        go_wp2_with fail
        go_roundw
        case rel =>
          refine ⟨ms ++ [p], init ++ l, by have h := HStep.out; rwa [HGl.out] at h, HM6.out, HO6.out, HI6.out, ?_, HOn6.out⟩
          rw [List.length_append, List.length_append, List.length_singleton]
          exact rf_len HLen.out (by have := HD.out; rwa [HGl.out] at this)
        case measure =>
          have h1 := HStep.out.len HG.out
          rw [List.length_append, List.length_singleton] at h1
          rw [setSz_eq HM6.out, setSz_eq HR.out.map]
          simp only [lenOf, List.length_append, List.length_singleton]
          exact rf_measure h1 (by have := HD.out; rwa [HGl.out] at this)
set_option maxRecDepth 100000 in
set_option maxHeartbeats 4000000 in
theorem reached_c {G : Nat → List Int} {S : List Int} {N D F : Nat} {r q : Value} {P : Nat → Prop} {I : List Nat → World → Prop} (hG : GBd G S N D) (hcap : D * (N + 1) + S.length ≤ 100000000) (hS : S.length ≤ 1000000) (hN : N ≤ 100000000)
    (B0 : Nat) (v : Value) (w : World) (hL : Leads G S N F (fun p => #[.int .i64 p, r, q]) w.heap.size P I) (ho : w.ownsRow B0 3 1 v S.length (ints S)) (hI : I [] w) :
    Calls Tryz.prog 50 #[v, .func (.func F) #[] #[r, q]] w (RfPost G S P I w) := by
  obtain ⟨s, c, rfl⟩ := own_slice ho
  have HG := hid hG
  have HL := hid hL
  have HO := hid ho
  have HI := hid hI
  clear hG hL ho hI
  have hmm := @run_makeMap Tryz.prog
  go_enter Tryz.func50, Tryz.ntmps50
  go_upto_region 2 with fail
  clear hmm
  have HM1 := hid (setAt_new w)
  have HB1 := hid ((Below.refl w.heap.size w).alloc (Nat.le_refl _) (.map #[] 0))
  have HO1 := hid (HO.out.alloc (.map #[] 0))
  have hz1 : (w.alloc (.map #[] 0)).heap.size = w.heap.size + 1 := by simp
  generalize w.alloc (.map #[] 0) = w1 at HM1 HB1 HO1 hz1 ⊢
  go_wp2_with fail
  refine (clone_c S B0 _ w1 HO1.out hS).mono ?_
  rintro e w2 ⟨v2, rfl, hown2, hb2⟩
  rw [hz1] at hown2
  have HM2 := hid (HM1.out.on hb2)
  have HB2 := hid (HB1.out.trans (hb2.mono HB1.out.size))
  have HI2 := hid (HL.out.on _ _ _ HI.out HB2.out)
  have HO2 := hid hown2
  obtain ⟨s2, c2, rfl⟩ := own_slice hown2
  clear hown2 hb2
  go_wp2_with fail
  go_loopw [6, 7, 8] (fun v _ _ wr => ∃ (ms : List Nat) (ahead : List Int), RfRel G S D P I w ms ahead v wr) (fun v _ _ wr => (D + 1) * (N + 1 - setSz wr w.heap.size) + lenOf v)
  case atStart =>
    exact ⟨[], S, WL.begin HG.out, HM2.out, HO2.out, HI2.out, by simp, .of_below HB2.out⟩
  case round =>
    obtain ⟨ms, ahead, hrel⟩ := hrel
    have HR := hid hrel
    have hll := hrel.len
    have hml := hrel.inv.len HG.out
    have hsz := hrel.only.size
    have hmul : D * ms.length ≤ D * (N + 1) := Nat.mul_le_mul_left D hml
    rcases List.eq_nil_or_concat ahead with rfl | ⟨init, a, rfl⟩
    · obtain ⟨sv, cv, rfl⟩ := own_slice hrel.own
      clear hrel hmul hll
      go_wp2_with fail
      go_ret
      exact ⟨w.heap.size, ms, rfl, HR.out.map, HR.out.inv.done, HR.out.inv.nd, HR.out.st, HR.out.only, Nat.le_refl _⟩
    · rw [List.concat_eq_append] at *
      obtain ⟨p, rfl, hrc⟩ := hrel.inv.ra a (by simp)
      have hpN := hrc.le HG.out
      have HRc := hid hrc
      have HO := hid (show wr.ownsRow (w.heap.size + 1) 3 1 _ (init.length + 1) (ints init ++ [.int .i64 p]) from by have h := hrel.own; rw [List.length_append] at h; simpa [ints] using h)
      obtain ⟨g, cap, rfl, hg, hgl⟩ := own_addr HO.out (by omega)
      have HP := hid (own_pop HO.out)
      have hcp : init.length + 1 ≤ cap := by
        rcases HO.out.2 with ⟨h, _⟩ | ⟨_, _, _, h, _, _, hc, _⟩
        · cases h
        · cases h; exact hc
      have hcell : wr.cell? ⟨g, init.length, none⟩ = some (.int .i64 p) := by
        have h := HO.out.cells (g := g) rfl init.length (.int .i64 p) (by simp [ints])
        have e : (⟨g, 0, none⟩ : Addr).add init.length = ⟨g, init.length, none⟩ := by unfold Addr.add; split <;> simp_all
        rwa [e] at h
      simp only [List.length_append, List.length_singleton] at hll
      have hil : init.length ≤ 100000000 := by omega
      have hmem : ∀ q : Int, q ∈ init ++ [(p : Int)] ↔ q = (p : Int) ∨ q ∈ init := fun q => by simp [or_comm]
      have HMem := hid hmem
      have HLen := hid hll
      have HMl := hid hml
      have HMul := hid hmul
      clear hrel hrc hmem hmul hll hml
      by_cases hin : p ∈ ms
      · have hlk := set_yes HR.out.map hin
        have HIn := hid hin
        clear hin
        go_wp2_with fail
        go_roundw
        case rel =>
          exact ⟨ms, init, HR.out.inv.again HMem.out HIn.out, HR.out.map, HP.out, HR.out.st, by have := HLen.out; omega, HR.out.only⟩
        case measure =>
          simp only [lenOf]
          omega
      · have hlk := set_no HR.out.map hin
        have hput := run_setPut HR.out.map hin
        have HIn := hid hin
        clear hin
        go_upto_region 9 with fail
        clear hput hlk hcell
        have hm4 := setSet_at (w := wr) (b := w.heap.size) HR.out.map.lt (ms ++ [p])
        have ho4 := setSet_only wr w.heap.size (ms ++ [p])
        generalize setSet wr w.heap.size (ms ++ [p]) = w4 at hm4 ho4 ⊢
        have HM4 := hid hm4
        have HB4 := hid (ho4.below (B := w.heap.size) hsz (fun k hk => by omega))
        have HP4 := hid (own_only HP.out (fun k hk => by have hk2 : g = k := (by simpa [Value.ownBlock] using hk); omega) ho4)
        have HI4 := hid (HL.out.on _ _ _ HR.out.st HB4.out)
        have HOn4 := hid (only_fresh HR.out.only HB4.out (Nat.le_refl _))
        have hz4 := ho4.size
        have HStep := hid (HR.out.inv.meet HG.out (rest' := init ++ G p) HMem.out HIn.out (fun q => by simp))
        have hgl9 := HG.out.len p hpN
        have HD := hid hgl9
        have hen := HL.out.enter
        clear hm4 ho4
        go_wp2_with fail
        refine (HL.out.call ms p w4 HI4.out (by omega) hpN HIn.out HRc.out).mono ?_
        rintro en w5 ⟨v5, rfl, hown5, hI5, honly5⟩
        obtain ⟨l, hl⟩ : ∃ l, G p = l := ⟨_, rfl⟩
        have HGl := hid hl
        rw [hl] at hown5 hgl9
        have HI5 := hid hI5
        have HM5 := hid (HM4.out.only (fun h => by have := HL.out.far _ h; omega) honly5)
        have HP5 := hid (own_only HP4.out (fun k hk h => by have hk2 : g = k := (by simpa [Value.ownBlock] using hk); have := HL.out.far _ h; omega) honly5)
        have HOn5 := hid (HOn4.out.trans honly5)
        obtain ⟨s5, c5, rfl⟩ := own_slice hown5
        have HSrc := hid (SrcAt.of_rd (Rd.of_own hown5))
        have hz5 := honly5.size
        have hlD : l.length ≤ 100000000 := by
          have h1 : D * 1 ≤ D * (N + 1) := Nat.mul_le_mul_left D (by omega)
          omega
        clear hown5 hI5 honly5 hl hgl9 hen
        go_wp2_with (at_builtin; refine app_ints _ rfl _ _ rfl (w.heap.size + 1) init l _ rfl HP5.out _ _ _ rfl rfl HSrc.out (by omega) (by omega) ?_)
        intro v6 w6 hg6
        have HO6 := hid hg6.own
        have HM6 := hid (show SetAt w6 w.heap.size (ms ++ [p]) from (hg6.far w.heap.size (by have := HM5.out.lt; omega) (by intro h; have h2 : g = w.heap.size := (by simpa [Value.ownBlock] using h); omega)).trans HM5.out)
        have hb6 := hg6.bel.mono (show w.heap.size ≤ w.heap.size + 1 by omega)
        have HI6 := hid (HL.out.on _ _ _ HI5.out hb6)
        have HOn6 := hid (only_fresh HOn5.out hb6 (Nat.le_refl _))
        obtain ⟨s6, c6, rfl⟩ := own_slice hg6.own
        clear hg6 hb6
        go_wp2_with fail
        go_roundw
        case rel =>
          refine ⟨ms ++ [p], init ++ l, by have h := HStep.out; rwa [HGl.out] at h, HM6.out, HO6.out, HI6.out, ?_, HOn6.out⟩
          rw [List.length_append, List.length_append, List.length_singleton]
          exact rf_len HLen.out (by have := HD.out; rwa [HGl.out] at this)
        case measure =>
          have h1 := HStep.out.len HG.out
          rw [List.length_append, List.length_singleton] at h1
          rw [setSz_eq HM6.out, setSz_eq HR.out.map]
          simp only [lenOf, List.length_append, List.length_singleton]
          exact rf_measure h1 (by have := HD.out; rwa [HGl.out] at this)
end Go.Proofs.YtiokmebmimgdjaaGreat.Wk
