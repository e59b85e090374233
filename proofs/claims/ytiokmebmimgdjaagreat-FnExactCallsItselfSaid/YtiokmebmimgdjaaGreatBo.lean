/- reachedFrom by a closure that writes memory of its own; the closure of body. -/
import Derived.Test.YtiokmebmimgdjaaGreatRf
import Derived.Test.YtiokmebmimgdjaaGreatPl
import Derived.Test.YtiokmebmimgdjaaGreatFo
import Derived.Deep.RegionLaw
set_option linter.unusedSimpArgs false
set_option linter.unusedVariables false
namespace Go.Proofs.YtiokmebmimgdjaaGreat.Wk
open Go.RowKit Pl Ft Mm In C2 Im Sw

/-- What a closure does that tells where places lead: T: the blocks on which its state stands. -/
structure LeadsF (G : Nat → List Int) (S : List Int) (N : Nat) (F : Nat) (args : Nat → Array Value) (I : List Nat → (Nat → Prop) → World → Prop) : Prop where
  call : ∀ (ms : List Nat) (T : Nat → Prop) (p : Nat) (w : World), I ms T w → p ≤ N → p ∉ ms → Rc G S p → Calls Tryz.prog F (args p) w fun e w' => ∃ v T', e = .returned v ∧ w'.ownsRow w.heap.size 3 1 v (G p).length (ints (G p)) ∧ I (ms ++ [p]) T' w' ∧ (∀ k, T' k → T k ∨ w.heap.size ≤ k) ∧ Only T w w'
  enter : ∀ (xs : Array Value) (w : World), (callFunc F xs).run Tryz.prog w = .ok (.enter F xs) w
  on : ∀ ms T w w' (z : Nat → Prop), I ms T w → (∀ k, z k → ¬ T k) → Only z w w' → I ms T w'
  lt : ∀ ms T w, I ms T w → ∀ k, T k → k < w.heap.size
def RgPost (G : Nat → List Int) (S : List Int) (T0 : Nat → Prop) (I : List Nat → (Nat → Prop) → World → Prop) (w : World) (e : Ending) (w' : World) : Prop :=
  ∃ (gm : Nat) (ms : List Nat) (T : Nat → Prop), e = .returned (.map (some gm)) ∧ SetAt w' gm ms ∧ (∀ p, p ∈ ms ↔ Rc G S p) ∧ ms.Nodup ∧ I ms T w' ∧ Only T0 w w' ∧ w.heap.size ≤ gm
theorem only_mix {p q : Nat → Prop} {w0 w w' : World} (h : Only p w0 w) (ho : Only q w w') (hq : ∀ k, q k → p k ∨ w0.heap.size ≤ k) : Only p w0 w' :=
  ⟨ho.os.trans h.os, ho.tape.trans h.tape, ho.output.trans h.output, Nat.le_trans h.size ho.size, fun k hk hn => (ho.block k (Nat.lt_of_lt_of_le hk h.size) (fun hqk => by
    rcases hq k hqk with h1 | h1
    · exact hn h1
    · omega)).trans (h.block k hk hn)⟩
theorem grows_only {B : Nat} {xs : List Int} {v v' : Value} {w w' : World} (h : Grows B xs v v' w w') : Only (fun k => v.ownBlock = some k) w w' :=
  ⟨h.bel.os, h.bel.tape, h.bel.output, h.bel.size, fun k hk hn => h.far k hk hn⟩
structure RgRel (G : Nat → List Int) (S : List Int) (D : Nat) (T0 : Nat → Prop) (I : List Nat → (Nat → Prop) → World → Prop) (w : World) (ms : List Nat) (T : Nat → Prop) (ahead : List Int) (v : Value) (wr : World) : Prop where
  inv : WL G S ms ahead
  map : SetAt wr w.heap.size ms
  own : wr.ownsRow (w.heap.size + 1) 3 1 v ahead.length (ints ahead)
  st : I ms T wr
  old : ∀ k, T k → T0 k ∨ w.heap.size ≤ k
  nomap : ¬ T w.heap.size
  noown : ∀ k, v.ownBlock = some k → ¬ T k
  len : ahead.length ≤ D * ms.length + S.length
  only : Only T0 w wr
set_option maxRecDepth 100000 in
set_option maxHeartbeats 4000000 in
theorem reached_f {G : Nat → List Int} {S : List Int} {N D F : Nat} {r q : Value} {T0 : Nat → Prop} {I : List Nat → (Nat → Prop) → World → Prop} (hG : GBd G S N D) (hcap : D * (N + 1) + S.length ≤ 100000000) (hS : S.length ≤ 1000000) (hN : N ≤ 100000000)
    (B0 : Nat) (v : Value) (w : World) (hL : LeadsF G S N F (fun p => #[.int .i64 p, r, q]) I) (ho : w.ownsRow B0 3 1 v S.length (ints S)) (hI : I [] T0 w) :
    Calls Tryz.prog 50 #[v, .func (.func F) #[] #[r, q]] w (RgPost G S T0 I w) := by
  obtain ⟨s, c, rfl⟩ := own_slice ho
  have HG := hid hG
  have HL := hid hL
  have HO := hid ho
  have HI := hid hI
  clear hG hL ho hI
  have hmm := @run_makeMap Tryz.prog
  go_enter Tryz.func50, Tryz.ntmps50
  go_upto_region 2 with fail
  clear hmm
  have HM1 := hid (setAt_new w)
  have HB1 := hid ((Below.refl w.heap.size w).alloc (Nat.le_refl _) (.map #[] 0))
  have HO1 := hid (HO.out.alloc (.map #[] 0))
  have hz1 : (w.alloc (.map #[] 0)).heap.size = w.heap.size + 1 := by simp
  generalize w.alloc (.map #[] 0) = w1 at HM1 HB1 HO1 hz1 ⊢
  go_wp2_with fail
  refine (clone_c S B0 _ w1 HO1.out hS).mono ?_
  rintro e w2 ⟨v2, rfl, hown2, hb2⟩
  rw [hz1] at hown2
  have HM2 := hid (HM1.out.on hb2)
  have HB2 := hid (HB1.out.trans (hb2.mono HB1.out.size))
  have HT0 := hid (HL.out.lt _ _ _ HI.out)
  have HI2 := hid (HL.out.on _ _ _ _ (fun k => w.heap.size ≤ k) HI.out (fun k hk ht => by have := HT0.out k ht; omega) ⟨HB2.out.os, HB2.out.tape, HB2.out.output, HB2.out.size, fun k hk _ => HB2.out.block k hk⟩)
  have HO2 := hid hown2
  obtain ⟨s2, c2, rfl⟩ := own_slice hown2
  clear hown2 hb2
  go_wp2_with fail
  go_loopw [6, 7, 8] (fun v _ _ wr => ∃ (ms : List Nat) (T : Nat → Prop) (ahead : List Int), RgRel G S D T0 I w ms T ahead v wr) (fun v _ _ wr => (D + 1) * (N + 1 - setSz wr w.heap.size) + lenOf v)
  case atStart =>
    exact ⟨[], T0, S, WL.begin HG.out, HM2.out, HO2.out, HI2.out, fun k hk => .inl hk, fun ht => by have := HT0.out _ ht; omega, fun k hk ht => by have := HT0.out _ ht; have := (HO2.out.lt k hk).1; omega, by simp, .of_below HB2.out⟩
  case round =>
    obtain ⟨ms, T, ahead, hrel⟩ := hrel
    have HR := hid hrel
    have hll := hrel.len
    have hml := hrel.inv.len HG.out
    have hsz := hrel.only.size
    have hmul : D * ms.length ≤ D * (N + 1) := Nat.mul_le_mul_left D hml
    rcases List.eq_nil_or_concat ahead with rfl | ⟨init, a, rfl⟩
    · obtain ⟨sv, cv, rfl⟩ := own_slice hrel.own
      clear hrel hmul hll
      go_wp2_with fail
      go_ret
      exact ⟨w.heap.size, ms, T, rfl, HR.out.map, HR.out.inv.done, HR.out.inv.nd, HR.out.st, HR.out.only, Nat.le_refl _⟩
    · rw [List.concat_eq_append] at *
      obtain ⟨p, rfl, hrc⟩ := hrel.inv.ra a (by simp)
      have hpN := hrc.le HG.out
      have HRc := hid hrc
      have HO := hid (show wr.ownsRow (w.heap.size + 1) 3 1 _ (init.length + 1) (ints init ++ [.int .i64 p]) from by have h := hrel.own; rw [List.length_append] at h; simpa [ints] using h)
      obtain ⟨g, cap, rfl, hg, hgl⟩ := own_addr HO.out (by omega)
      have HP := hid (own_pop HO.out)
      have HNo := hid (fun k (hk : some g = some k) => HR.out.noown k hk)
      have hcp : init.length + 1 ≤ cap := by
        rcases HO.out.2 with ⟨h, _⟩ | ⟨_, _, _, h, _, _, hc, _⟩
        · cases h
        · cases h; exact hc
      have hcell : wr.cell? ⟨g, init.length, none⟩ = some (.int .i64 p) := by
        have h := HO.out.cells (g := g) rfl init.length (.int .i64 p) (by simp [ints])
        have e : (⟨g, 0, none⟩ : Addr).add init.length = ⟨g, init.length, none⟩ := by unfold Addr.add; split <;> simp_all
        rwa [e] at h
      simp only [List.length_append, List.length_singleton] at hll
      have hil : init.length ≤ 100000000 := by omega
      have hmem : ∀ q : Int, q ∈ init ++ [(p : Int)] ↔ q = (p : Int) ∨ q ∈ init := fun q => by simp [or_comm]
      have HMem := hid hmem
      have HLen := hid hll
      have HMl := hid hml
      have HMul := hid hmul
      clear hrel hrc hmem hmul hll hml
      by_cases hin : p ∈ ms
      · have hlk := set_yes HR.out.map hin
        have HIn := hid hin
        clear hin
        go_wp2_with fail
        go_roundw
        case rel =>
          exact ⟨ms, T, init, HR.out.inv.again HMem.out HIn.out, HR.out.map, HP.out, HR.out.st, HR.out.old, HR.out.nomap, fun k hk => HNo.out k hk, by have := HLen.out; omega, HR.out.only⟩
        case measure =>
          simp only [lenOf]
          omega
      · have hlk := set_no HR.out.map hin
        have hput := run_setPut HR.out.map hin
        have HIn := hid hin
        clear hin
        go_upto_region 9 with fail
        clear hput hlk hcell
        have hm4 := setSet_at (w := wr) (b := w.heap.size) HR.out.map.lt (ms ++ [p])
        have ho4 := setSet_only wr w.heap.size (ms ++ [p])
        generalize setSet wr w.heap.size (ms ++ [p]) = w4 at hm4 ho4 ⊢
        have HM4 := hid hm4
        have HB4 := hid (ho4.below (B := w.heap.size) hsz (fun k hk => by omega))
        have HP4 := hid (own_only HP.out (fun k hk => by have hk2 : g = k := (by simpa [Value.ownBlock] using hk); omega) ho4)
        have HI4 := hid (HL.out.on _ _ _ _ (fun k => k = w.heap.size) HR.out.st (fun k hk => by rw [hk]; exact HR.out.nomap) ho4)
        have HOn4 := hid (only_mix HR.out.only ho4 (fun k hk => .inr (by omega)))
        have HgT := hid (show ¬ T g from HNo.out g rfl)
        have hz4 := ho4.size
        have HStep := hid (HR.out.inv.meet HG.out (rest' := init ++ G p) HMem.out HIn.out (fun q => by simp))
        have hgl9 := HG.out.len p hpN
        have HD := hid hgl9
        have hen := HL.out.enter
        clear hm4 ho4
        go_wp2_with fail
        refine (HL.out.call ms T p w4 HI4.out hpN HIn.out HRc.out).mono ?_
        rintro en w5 ⟨v5, T5, rfl, hown5, hI5, hT5, honly5⟩
        have HT5 := hid hT5
        obtain ⟨l, hl⟩ : ∃ l, G p = l := ⟨_, rfl⟩
        have HGl := hid hl
        rw [hl] at hown5 hgl9
        have HI5 := hid hI5
        have HM5 := hid (HM4.out.only HR.out.nomap honly5)
        have HP5 := hid (own_only HP4.out (fun k hk h => by have hk2 : g = k := (by simpa [Value.ownBlock] using hk); exact HgT.out (hk2 ▸ h)) honly5)
        have HOn5 := hid (only_mix HOn4.out honly5 HR.out.old)
        have HN5 := hid (show ¬ T5 w.heap.size from fun h => by
          rcases HT5.out _ h with h1 | h1
          · exact HR.out.nomap h1
          · have := HM4.out.lt; omega)
        have HgT5 := hid (show ¬ T5 g from fun h => by
          rcases HT5.out _ h with h1 | h1
          · exact HgT.out h1
          · omega)
        have HOld5 := hid (show ∀ k, T5 k → T0 k ∨ w.heap.size ≤ k from fun k hk => by
          rcases HT5.out _ hk with h1 | h1
          · exact HR.out.old k h1
          · exact .inr (by omega))
        obtain ⟨s5, c5, rfl⟩ := own_slice hown5
        have HSrc := hid (SrcAt.of_rd (Rd.of_own hown5))
        have hz5 := honly5.size
        have hlD : l.length ≤ 100000000 := by
          have h1 : D * 1 ≤ D * (N + 1) := Nat.mul_le_mul_left D (by omega)
          omega
        clear hown5 hI5 honly5 hl hgl9 hen hT5
        go_wp2_with (at_builtin; refine app_ints _ rfl _ _ rfl (w.heap.size + 1) init l _ rfl HP5.out _ _ _ rfl rfl HSrc.out (by omega) (by omega) ?_)
        intro v6 w6 hg6
        have HO6 := hid hg6.own
        have HM6 := hid (show SetAt w6 w.heap.size (ms ++ [p]) from (hg6.far w.heap.size (by have := HM5.out.lt; omega) (by intro h; have h2 : g = w.heap.size := (by simpa [Value.ownBlock] using h); omega)).trans HM5.out)
        have hb6 := hg6.bel.mono (show w.heap.size ≤ w.heap.size + 1 by omega)
        have HI6 := hid (HL.out.on _ _ _ _ (fun k => (Value.slice (some ⟨g, 0, none⟩) init.length cap).ownBlock = some k) HI5.out (fun k hk ht => HgT5.out (by have hk2 : g = k := (by simpa [Value.ownBlock] using hk); rwa [hk2])) (grows_only hg6))
        have HOn6 := hid (only_fresh HOn5.out hb6 (Nat.le_refl _))
        have HN6 := hid (show ∀ k, v6.ownBlock = some k → ¬ T5 k from fun k hk ht => by
          rcases hg6.at_ with h1 | ⟨g', h1, h2⟩
          · rw [h1] at hk; exact HgT5.out (by have hk2 : g = k := (by simpa [Value.ownBlock] using hk); rwa [hk2])
          · have := HL.out.lt _ _ _ HI5.out k ht; rw [h1] at hk; cases hk; omega)
        obtain ⟨s6, c6, rfl⟩ := own_slice hg6.own
        clear hg6 hb6
        go_wp2_with fail
        go_roundw
        case rel =>
          refine ⟨ms ++ [p], T5, init ++ l, by have h := HStep.out; rwa [HGl.out] at h, HM6.out, HO6.out, HI6.out, HOld5.out, HN5.out, HN6.out, ?_, HOn6.out⟩
          rw [List.length_append, List.length_append, List.length_singleton]
          exact rf_len HLen.out (by have := HD.out; rwa [HGl.out] at this)
        case measure =>
          have h1 := HStep.out.len HG.out
          rw [List.length_append, List.length_singleton] at h1
          rw [setSz_eq HM6.out, setSz_eq HR.out.map]
          simp only [lenOf, List.length_append, List.length_singleton]
          exact rf_measure h1 (by have := HD.out; rwa [HGl.out] at this)
end Go.Proofs.YtiokmebmimgdjaaGreat.Wk
namespace Go.Proofs.YtiokmebmimgdjaaGreat.Wk
open Go.RowKit Pl Ft Mm In C2 Im Sw

def bodyL (code : List Int) (ms : List Nat) : List Int := (insOf code ms).map fun (p : Nat) => (p : Int)
theorem bodyL_no {code : List Int} {ms : List Nat} {p : Nat} (h : readP code p = none) : bodyL code (ms ++ [p]) = bodyL code ms := by
  unfold bodyL
  rw [insOf_push, h]
theorem bodyL_yes {code : List Int} {ms : List Nat} {p : Nat} {i : IIns} (h : readP code p = some i) : bodyL code (ms ++ [p]) = bodyL code ms ++ [(p : Int)] := by
  unfold bodyL
  rw [insOf_push, h]
  simp
theorem gm_no {code : List Int} {p : Nat} (h : readP code p = none) (c : Bool) : Gm code c p = [] := by unfold Gm; rw [h]
theorem gm_off {code : List Int} {p : Nat} {i : IIns} (h : readP code p = some i) : Gm code false p = nextsP code i (p + slong i) := by
  unfold Gm
  rw [h]
  simp
/-- What the closure stands on: the walk, its box, the list's box, and the list so far. -/
structure BdSt (code : List Int) (gl : Nat) (wS : World) (ms : List Nat) (T : Nat → Prop) (w : World) : Prop where
  ex : ∃ lv, T = (fun k => k < wS.heap.size ∨ lv.ownBlock = some k) ∧ Row w gl 22 #[lv] ∧ w.ownsRow wS.heap.size 3 1 lv (bodyL code ms).length (ints (bodyL code ms))
  only : Only (fun k => k = gl) wS w
  len : (bodyL code ms).length ≤ 100001
theorem BdSt.on {code : List Int} {gl : Nat} {wS : World} {ms : List Nat} {T z : Nat → Prop} {w w' : World} (h : BdSt code gl wS ms T w) (hgl : gl < wS.heap.size) (hz : ∀ k, z k → ¬ T k) (ho : Only z w w') : BdSt code gl wS ms T w' := by
  obtain ⟨lv, hT, hrow, hown⟩ := h.ex
  refine ⟨⟨lv, hT, row_only hrow (fun hk => hz _ hk (by rw [hT]; exact .inl hgl)) ho, own_only hown (fun k hk hk2 => hz _ hk2 (by rw [hT]; exact .inr hk)) ho⟩, only_mix h.only ho (fun k hk => ?_), h.len⟩
  rcases Nat.lt_or_ge k wS.heap.size with h1 | h1
  · exact absurd (by rw [hT]; exact .inl h1) (hz k hk)
  · exact .inr h1
theorem BdSt.lt {code : List Int} {gl : Nat} {wS : World} {ms : List Nat} {T : Nat → Prop} {w : World} (h : BdSt code gl wS ms T w) (k : Nat) (hk : T k) : k < w.heap.size := by
  obtain ⟨lv, hT, hrow, hown⟩ := h.ex
  rw [hT] at hk
  have := h.only.size
  rcases hk with h1 | h1
  · omega
  · exact (hown.lt k h1).2
theorem mt_stop (w : World) : (method 318 130 (.agg #[]) "loop.example/liftedcode/impl.ways").run Tryz.prog w = .ok (170, .agg #[]) w := by kernel_rfl
theorem mt_next (x : Int) (w : World) : (method 318 136 (.agg #[.int .i64 x]) "loop.example/liftedcode/impl.ways").run Tryz.prog w = .ok (113, .agg #[.int .i64 x]) w := by kernel_rfl
theorem mt_jump (x : Int) (w : World) : (method 318 132 (.agg #[.int .i64 x]) "loop.example/liftedcode/impl.ways").run Tryz.prog w = .ok (171, .agg #[.int .i64 x]) w := by kernel_rfl
theorem mt_if (x y : Int) (w : World) : (method 318 134 (.agg #[.int .i64 x, .int .i64 y]) "loop.example/liftedcode/impl.ways").run Tryz.prog w = .ok (172, .agg #[.int .i64 x, .int .i64 y]) w := by kernel_rfl
theorem mt_call (x y : Int) (w : World) : (method 318 138 (.agg #[.int .i64 x, .int .i64 y]) "loop.example/liftedcode/impl.ways").run Tryz.prog w = .ok (113, .agg #[.int .i64 x]) w := by kernel_rfl
theorem mt_table (v : Value) (b : Bool) (x : Int) (w : World) : (method 318 140 (.agg #[v, .bool b, .int .i64 x]) "loop.example/liftedcode/impl.ways").run Tryz.prog w = .ok (173, .agg #[v, .bool b, .int .i64 x]) w := by kernel_rfl
def BdPost (code : List Int) (gl : Nat) (wS : World) (ms : List Nat) (T : Nat → Prop) (p : Nat) (w : World) (e : Ending) (w' : World) : Prop :=
  ∃ v T', e = .returned v ∧ w'.ownsRow w.heap.size 3 1 v (Gm code false p).length (ints (Gm code false p)) ∧ BdSt code gl wS (ms ++ [p]) T' w' ∧ (∀ k, T' k → T k ∨ w.heap.size ≤ k) ∧ Only T w w'
theorem readIns_zero (w : World) (p : Nat) {b : Nat} {code : List Int} {ms : List Nat} (h : MapAt w b code ms) (hp : p ∉ ms) : (Instr.lookup 82 (.map (some b)) (.int .i64 p) true).run Tryz.prog w = .ok (.tuple #[.agg #[.int .i64 0, .int .i64 0, .int .i64 0, .int .i64 0, .int .i64 0], .bool false]) w := look_no h hp
set_option maxRecDepth 100000 in
set_option maxHeartbeats 8000000 in
theorem bodyFn_c (code : List Int) (ac : Option Addr) (cc : Nat) (lb : Value) (gw gm gp gl : Nat) (ms0 : List Nat) (w00 wS : World) (ms : List Nat) (T : Nat → Prop) (p : Nat) (w : World)
    (hr : Rd w00 (.slice ac code.length cc) code) (hcap : code.length ≤ cc) (hb00 : Below w00.heap.size w00 wS) (hgl0 : w00.heap.size ≤ gl) (hgl : gl < wS.heap.size) (hby : code.all isByte = true) (hlen : code.length ≤ 2000)
    (hw : Row wS gw 84 #[.slice ac code.length cc, .map (some gm), lb]) (hm : MapAt wS gm code ms0) (hp : Row wS gp 47 #[.pointer (some ⟨gw, 0, none⟩)]) (h1 : gw ≠ gl) (h2 : gm ≠ gl) (h3 : gp ≠ gl)
    (hin : p ∈ ms0 ↔ (readP code p).isSome = true) (hpN : p ≤ 100000) (hI : BdSt code gl wS ms T w) (hln : (bodyL code (ms ++ [p])).length ≤ 100001) :
    Calls Tryz.prog 77 #[.int .i64 p, .pointer (some ⟨gp, 0, none⟩), .pointer (some ⟨gl, 0, none⟩)] w (BdPost code gl wS ms T p w) := by
  obtain ⟨lv, rfl, hrow, hown⟩ := hI.ex
  have HI := hid hI
  have HRow := hid hrow
  have HOwn := hid hown
  have HLn := hid hln
  have hzS := hI.only.size
  have HW := hid (row_only hw h1 hI.only)
  have HM := hid (hm.only h2 hI.only)
  have HP := hid (row_only hp h3 hI.only)
  have HS0 := hid hb00.size
  have HBw := hid (hb00.trans (hI.only.below hb00.size (fun k hk => by rw [hk]; exact hgl0)))
  have HRd := hid (hr.on HBw.out)
  have HRS := hid hr
  have HB00 := hid hb00
  have HBy := hid hby
  have hbl := hI.len
  obtain ⟨ls, lc, rfl⟩ := own_slice hown
  have p0 := HP.out.cell 0
  have y0 := HW.out.cell 0
  have y1 := HW.out.cell 1
  have l0 := HRow.out.cell 0
  have lf := HRow.out.free
  simp at p0 y0 y1 l0
  clear hr hb00 hw hm hp hI hrow hown hby hln
  cases ho : readP code p with
  | none =>
    have hni : p ∉ ms0 := fun h => by have := hin.1 h; rw [ho] at this; cases this
    have hlk := readIns_zero w p HM.out hni
    have HG := hid (gm_no ho false)
    have HBn := hid (bodyL_no (ms := ms) ho)
    have HB1 := hid ((Below.refl w.heap.size w).alloc (Nat.le_refl _) (.cells #[.int .i64 0, .int .i64 0, .int .i64 0, .int .i64 0, .int .i64 0] 90))
    have HRd2 := hid ho
    clear ho hni hin
    go_enter Tryz.func77, Tryz.ntmps77
    go_wp2_with fail
    go_ret
    have ho1 := Only.of_below (p := fun k => False) HB1.out
    refine ⟨_, _, rfl, by rw [HG.out]; exact World.ownsRow_nil _ _ _ _, ?_, fun k hk => .inl hk, ho1.mono (fun k h => h.elim)⟩
    have h := HI.out.on hgl (z := fun k => False) (fun k h => h.elim) ho1
    exact ⟨by rw [HBn.out]; exact h.ex, h.only, by rw [HBn.out]; exact h.len⟩
  | some i =>
    have hmi : p ∈ ms0 := hin.2 (by rw [ho]; rfl)
    have hlk := look_yes HM.out hmi
    have hrdo : rdOf code p = rdArr i (p + slong i) := by unfold rdOf nextP; rw [ho]; rfl
    have hf := readP_facts ho
    have HV := hid hf.2.1
    have HTl := hid (show i.op = 30 → ((tabP code i).getD []).length ≤ 1000000 from fun h30 => by have := tab_len (code := code) (valid_b hf.2.1 h30); omega)
    have HG := hid (gm_off ho)
    have HBn := hid (bodyL_yes (ms := ms) ho)
    rw [hrdo] at hlk
    unfold rdArr at hlk
    obtain ⟨op, ia, ib, n⟩ := i
    obtain ⟨x, hx⟩ : ∃ x, (p : Int) + slong ⟨op, ia, ib, n⟩ = x := ⟨_, rfl⟩
    rw [hx] at hlk HG
    simp only at hlk
    obtain ⟨bl, hbL⟩ : ∃ l, bodyL code ms = l := ⟨_, rfl⟩
    rw [hbL] at hbl HOwn HBn l0 HRow
    have HBl := hid hbL
    obtain ⟨w1, hw1, hr1, hb1, hz1⟩ := new_ex w 90 #[.int .i64 op, .int .i64 ia, .int .i64 ib, .int .i64 n, .int .i64 x]
    have HX1 := hid hr1
    have HB1 := hid hb1
    have HOw1 := hid (own_on HOwn.out hb1)
    have HRow1 := hid (HRow.out.on hb1)
    have HP1 := hid (HP.out.on hb1)
    have HW1 := hid (HW.out.on hb1)
    have hglw := HRow.out.lt
    have hrS := HRS.out
    clear ho hmi hin hrdo hf hx hbL hr1 hb1
    go_enter Tryz.func77, Tryz.ntmps77
    go_upto_region 4 with fail
    clear hw1 hlk p0 y0 y1 l0 lf
    have l0 := HRow1.out.cell 0
    simp at l0
    obtain ⟨gx, hgx⟩ : ∃ g, w.heap.size = g := ⟨_, rfl⟩
    rw [hgx] at HX1
    try rw [hgx]
    have HGx := hid hgx
    have hzz : wS.heap.size ≤ gx := by omega
    have hgx1 : gx < w1.heap.size := HX1.out.lt
    have hgw1 := HW1.out.lt
    have hgp1 := HP1.out.lt
    clear hgx
    go_upto_region 5 with (at_builtin; refine app_ints _ rfl _ _ rfl wS.heap.size bl [(p : Int)] _ rfl (HOw1.out.alloc _) _ _ _ rfl rfl (SrcAt.at_ _ [(p : Int)] #[.int .i64 p] _ 1 rfl (by simp) rfl) (by simp; omega) (by simp; omega) ?_; intro v2 w2 hg2; have HO2 := hid hg2.own; have HG2 := hid hg2; have hba := (Below.refl w1.heap.size w1).alloc (Nat.le_refl _) (.cells #[.int .i64 p] 3); have HRow2 := hid (hg2.row (HRow1.out.on hba) (no_own (HRow1.out.on hba) (HOw1.out.alloc (.cells #[.int .i64 p] 3)) (by decide))); have HX2 := hid (hg2.row (HX1.out.on hba) (no_own (HX1.out.on hba) (HOw1.out.alloc (.cells #[.int .i64 p] 3)) (by decide))); have HP2 := hid (hg2.row (HP1.out.on hba) (no_own (HP1.out.on hba) (HOw1.out.alloc (.cells #[.int .i64 p] 3)) (by decide))); have HW2 := hid (hg2.row (HW1.out.on hba) (no_own (HW1.out.on hba) (HOw1.out.alloc (.cells #[.int .i64 p] 3)) (by decide))); have hown2 := hg2.own; obtain ⟨b2, hb2⟩ : ∃ b, bl ++ [(p : Int)] = b := ⟨_, rfl⟩; rw [hb2] at hown2; have HB2 := hid hb2; have HOb := hid hown2; obtain ⟨s2, c2, rfl⟩ := own_slice hown2; have l2 := HRow2.out.free; have l3 := HRow2.out.cell 0; simp at l3; clear hg2 hba hown2 hb2)
    have hb2l : b2.length = bl.length + 1 := by rw [← HB2.out]; simp
    have HB2l := hid hb2l
    have HRow3 := hid (HRow2.out.set 0 (.slice s2 b2.length c2))
    have HX3 := hid (HX2.out.far (p := ⟨gl, 0, none⟩) (by simp only; omega) (.slice s2 b2.length c2))
    have HP3 := hid (HP2.out.far (p := ⟨gl, 0, none⟩) h3 (.slice s2 b2.length c2))
    have HW3 := hid (HW2.out.far (p := ⟨gl, 0, none⟩) h1 (.slice s2 b2.length c2))
    have HO3 := hid (own_far HOb.out (p := ⟨gl, 0, none⟩) (fun g hg => by have := (HOb.out.lt g hg).1; simp only; omega) (.slice s2 b2.length c2))
    have hoA : Only (fun k => k = gl ∨ (Value.slice ls bl.length lc).ownBlock = some k) w w2 :=
      (Only.of_below HB1.out).trans ((Only.of_below ((Below.refl w1.heap.size w1).alloc (Nat.le_refl _) (.cells #[.int .i64 p] 3))).trans ((grows_only HG2.out).mono (fun k hk => .inr hk)))
    have hoB := hoA.setCell (g := gl) (.inl rfl) 0 (.slice s2 b2.length c2)
    have HOnT := hid (hoB.mono (q := fun k => k < wS.heap.size ∨ (Value.slice ls bl.length lc).ownBlock = some k) (fun k hk => by rcases hk with rfl | h; exact .inl hgl; exact .inr h))
    have HOnS := hid (only_mix HI.out.only hoB (fun k hk => by
      rcases hk with h | h
      · exact .inl h
      · exact .inr (HOwn.out.lt k h).1))
    have HTs := hid (show ∀ k, (k < wS.heap.size ∨ (Value.slice s2 b2.length c2).ownBlock = some k) → (k < wS.heap.size ∨ (Value.slice ls bl.length lc).ownBlock = some k) ∨ w.heap.size ≤ k from fun k hk => by
      rcases hk with h | h
      · exact .inl (.inl h)
      · rcases HG2.out.at_ with h4 | ⟨g', h4, h5⟩
        · have h7 : (Value.slice s2 b2.length c2).ownBlock = (Value.slice ls bl.length lc).ownBlock := by cases s2 <;> exact h4
          exact .inl (.inr (h7.symm.trans h))
        · have h7 : (Value.slice s2 b2.length c2).ownBlock = some g' := by cases s2 <;> exact h4
          have h6 : some g' = some k := h7.symm.trans h
          cases h6
          simp only [World.size_alloc] at h5
          exact .inr (by omega))
    have HSt := hid (show BdSt code gl wS (ms ++ [p]) (fun k => k < wS.heap.size ∨ (Value.slice s2 b2.length c2).ownBlock = some k) (w2.setCell ⟨gl, 0, none⟩ (.slice s2 b2.length c2)) from ⟨⟨_, rfl, HRow3.out, by rw [HBn.out, HB2.out]; exact HO3.out⟩, HOnS.out, HLn.out⟩)
    have hz3 : wS.heap.size ≤ (w2.setCell ⟨gl, 0, none⟩ (.slice s2 b2.length c2)).heap.size := HOnS.out.size
    have hzw := HOnT.out.size
    have HRd3 := hid (Rd.on hrS (HB00.out.trans (HOnS.out.below (B := w00.heap.size) HS0.out (fun k hk => by rw [hk]; exact hgl0))))
    clear l0 l2 l3 hoA hoB
    generalize w2.setCell ⟨gl, 0, none⟩ (.slice s2 b2.length c2) = w3 at HRow3 HX3 HP3 HW3 HO3 HOnT HOnS HSt hz3 hzw HRd3 ⊢
    have x0 := HX3.out.cell 0
    have x1 := HX3.out.cell 1
    have x2 := HX3.out.cell 2
    have x3 := HX3.out.cell 3
    have x4 := HX3.out.cell 4
    have y0 := HW3.out.cell 0
    have p0 := HP3.out.cell 0
    simp at x0 x1 x2 x3 x4 y0 p0
    by_cases h0 : op = 0 ∨ op = 1
    · have HEx := hid (show ∀ tv, exVal ⟨op, ia, ib, n⟩ x tv (tabP code ⟨op, ia, ib, n⟩).isSome = .iface 130 (.agg #[]) from fun tv => by unfold exVal; rw [if_pos h0])
      have HNx := hid (show nextsP code ⟨op, ia, ib, n⟩ x = [] by unfold nextsP; rw [if_pos h0])
      have hmt := mt_stop
      clear h0
      go_region_law (first
        | (go_simp; go_at_call 78; refine (exitOf_c code _ ⟨op, ia, ib, n⟩ x w3.drew (Rd.on HRd3.out ((Below.refl _ _).drew)) (fun a k c h => by cases h; exact hcap) HBy.out hlen HV.out).mono ?_; rintro e w4 ⟨tv, rfl, hown4, hb4⟩; rw [HEx.out tv]; have HO4 := hid hown4; have HB4 := hid hb4; clear hown4 hb4)
        | (go_simp; go_at_call 170; refine (stopWays_c _).mono ?_; rintro e w5 ⟨v5, rfl, hown5, hb5⟩; have HO5 := hid hown5; have HB5 := hid hb5; obtain ⟨s5, c5, rfl⟩ := own_slice hown5; clear hown5 hb5))
      all_goals
        go_wp2_with fail
        go_ret
        have hb35 := (Below.refl w3.heap.size w3).drew.trans (HB4.out.trans (HB5.out.mono HB4.out.size))
        have hb34 := HB4.out.size
        refine ⟨_, _, rfl, ?_, HSt.out.on hgl (z := fun k => False) (fun k h => h.elim) (Only.of_below hb35), by rw [HBl.out]; exact HTs.out, by rw [HBl.out]; exact HOnT.out.trans (.of_below hb35)⟩
        rw [HG.out, HNx.out]
        exact own_mono HO5.out (by simp only [World.drew] at hb34; omega)
    by_cases h27 : op = 27
    · have HEx := hid (show ∀ tv, exVal ⟨op, ia, ib, n⟩ x tv (tabP code ⟨op, ia, ib, n⟩).isSome = .iface 132 (.agg #[.int .i64 n]) from fun tv => by unfold exVal; rw [if_neg h0, if_pos h27])
      have HNx := hid (show nextsP code ⟨op, ia, ib, n⟩ x = [n] by unfold nextsP; rw [if_neg h0, if_pos h27])
      have hmt := mt_jump n
      clear h0 h27
      go_region_law (first
        | (go_simp; go_at_call 78; refine (exitOf_c code _ ⟨op, ia, ib, n⟩ x w3.drew (Rd.on HRd3.out ((Below.refl _ _).drew)) (fun a k c h => by cases h; exact hcap) HBy.out hlen HV.out).mono ?_; rintro e w4 ⟨tv, rfl, hown4, hb4⟩; rw [HEx.out tv]; have HO4 := hid hown4; have HB4 := hid hb4; clear hown4 hb4)
        | (go_simp; go_at_call 171; refine (jumpWays_c n _).mono ?_; rintro e w5 ⟨v5, rfl, hown5, hb5⟩; have HO5 := hid hown5; have HB5 := hid hb5; obtain ⟨s5, c5, rfl⟩ := own_slice hown5; clear hown5 hb5))
      all_goals
        go_wp2_with fail
        go_ret
        have hb35 := (Below.refl w3.heap.size w3).drew.trans (HB4.out.trans (HB5.out.mono HB4.out.size))
        have hb34 := HB4.out.size
        refine ⟨_, _, rfl, ?_, HSt.out.on hgl (z := fun k => False) (fun k h => h.elim) (Only.of_below hb35), by rw [HBl.out]; exact HTs.out, by rw [HBl.out]; exact HOnT.out.trans (.of_below hb35)⟩
        rw [HG.out, HNx.out]
        exact own_mono HO5.out (by simp only [World.drew] at hb34; omega)
    by_cases h28 : op = 28
    · have HEx := hid (show ∀ tv, exVal ⟨op, ia, ib, n⟩ x tv (tabP code ⟨op, ia, ib, n⟩).isSome = .iface 134 (.agg #[.int .i64 n, .int .i64 x]) from fun tv => by unfold exVal; rw [if_neg h0, if_neg h27, if_pos h28])
      have HNx := hid (show nextsP code ⟨op, ia, ib, n⟩ x = [n] ++ [x] by unfold nextsP; rw [if_neg h0, if_neg h27, if_pos h28])
      have hmt := mt_if n x
      clear h0 h27 h28
      go_region_law (first
        | (go_simp; go_at_call 78; refine (exitOf_c code _ ⟨op, ia, ib, n⟩ x w3.drew (Rd.on HRd3.out ((Below.refl _ _).drew)) (fun a k c h => by cases h; exact hcap) HBy.out hlen HV.out).mono ?_; rintro e w4 ⟨tv, rfl, hown4, hb4⟩; rw [HEx.out tv]; have HO4 := hid hown4; have HB4 := hid hb4; clear hown4 hb4)
        | (go_simp; go_at_call 172; refine (ifWays_c n x _).mono ?_; rintro e w5 ⟨v5, rfl, hown5, hb5⟩; have HO5 := hid hown5; have HB5 := hid hb5; obtain ⟨s5, c5, rfl⟩ := own_slice hown5; clear hown5 hb5))
      all_goals
        go_wp2_with fail
        go_ret
        have hb35 := (Below.refl w3.heap.size w3).drew.trans (HB4.out.trans (HB5.out.mono HB4.out.size))
        have hb34 := HB4.out.size
        refine ⟨_, _, rfl, ?_, HSt.out.on hgl (z := fun k => False) (fun k h => h.elim) (Only.of_below hb35), by rw [HBl.out]; exact HTs.out, by rw [HBl.out]; exact HOnT.out.trans (.of_below hb35)⟩
        rw [HG.out, HNx.out]
        exact own_mono HO5.out (by simp only [World.drew] at hb34; omega)
    by_cases h29 : op = 29
    · have HEx := hid (show ∀ tv, exVal ⟨op, ia, ib, n⟩ x tv (tabP code ⟨op, ia, ib, n⟩).isSome = .iface 138 (.agg #[.int .i64 x, .int .i64 n]) from fun tv => by unfold exVal; rw [if_neg h0, if_neg h27, if_neg h28, if_pos h29])
      have HNx := hid (show nextsP code ⟨op, ia, ib, n⟩ x = [] ++ [x] by unfold nextsP; rw [if_neg h0, if_neg h27, if_neg h28, if_neg (show ¬ op = 30 by omega)])
      have hmt := mt_call x n
      clear h0 h27 h28 h29
      go_region_law (first
        | (go_simp; go_at_call 78; refine (exitOf_c code _ ⟨op, ia, ib, n⟩ x w3.drew (Rd.on HRd3.out ((Below.refl _ _).drew)) (fun a k c h => by cases h; exact hcap) HBy.out hlen HV.out).mono ?_; rintro e w4 ⟨tv, rfl, hown4, hb4⟩; rw [HEx.out tv]; have HO4 := hid hown4; have HB4 := hid hb4; clear hown4 hb4)
        | (go_simp; go_at_call 113; refine (nextWays_c x _).mono ?_; rintro e w5 ⟨v5, rfl, hown5, hb5⟩; have HO5 := hid hown5; have HB5 := hid hb5; obtain ⟨s5, c5, rfl⟩ := own_slice hown5; clear hown5 hb5))
      all_goals
        go_wp2_with fail
        go_ret
        have hb35 := (Below.refl w3.heap.size w3).drew.trans (HB4.out.trans (HB5.out.mono HB4.out.size))
        have hb34 := HB4.out.size
        refine ⟨_, _, rfl, ?_, HSt.out.on hgl (z := fun k => False) (fun k h => h.elim) (Only.of_below hb35), by rw [HBl.out]; exact HTs.out, by rw [HBl.out]; exact HOnT.out.trans (.of_below hb35)⟩
        rw [HG.out, HNx.out]
        exact own_mono HO5.out (by simp only [World.drew] at hb34; omega)
    by_cases h30 : op = 30
    · have HEx := hid (show ∀ tv, exVal ⟨op, ia, ib, n⟩ x tv (tabP code ⟨op, ia, ib, n⟩).isSome = .iface 140 (.agg #[tv, .bool (tabP code ⟨op, ia, ib, n⟩).isSome, .int .i64 x]) from fun tv => by unfold exVal; rw [if_neg h0, if_neg h27, if_neg h28, if_neg h29, if_pos h30])
      have HNx := hid (show nextsP code ⟨op, ia, ib, n⟩ x = (tabP code ⟨op, ia, ib, n⟩).getD [] ++ [x] by unfold nextsP; rw [if_neg h0, if_neg h27, if_neg h28, if_pos h30])
      have hmt := fun tv b => mt_table tv b x
      have H30 := hid h30
      clear h0 h27 h28 h29 h30
      go_region_law (first
        | (go_simp; go_at_call 78; refine (exitOf_c code _ ⟨op, ia, ib, n⟩ x w3.drew (Rd.on HRd3.out ((Below.refl _ _).drew)) (fun a k c h => by cases h; exact hcap) HBy.out hlen HV.out).mono ?_; rintro e w4 ⟨tv, rfl, hown4, hb4⟩; rw [HEx.out tv]; have HO4 := hid hown4; have HB4 := hid hb4; clear hown4 hb4)
        | (go_simp; go_at_call 173; refine (tableWays_c ((tabP code ⟨op, ia, ib, n⟩).getD []) w3.drew.heap.size _ _ x w4 (HO4.out H30.out) (HTl.out H30.out)).mono ?_; rintro e w5 ⟨v5, rfl, hown5, hb5⟩; obtain ⟨ys, hys⟩ : ∃ ys, (tabP code ⟨op, ia, ib, n⟩).getD [] ++ [x] = ys := ⟨_, rfl⟩; rw [hys] at hown5; have HYs := hid hys; clear hys; have HO5 := hid hown5; have HB5 := hid hb5; obtain ⟨s5, c5, rfl⟩ := own_slice hown5; clear hown5 hb5))
      all_goals
        go_wp2_with fail
        go_ret
        have hb35 := (Below.refl w3.heap.size w3).drew.trans (HB4.out.trans (HB5.out.mono HB4.out.size))
        have hb34 := HB4.out.size
        refine ⟨_, _, rfl, ?_, HSt.out.on hgl (z := fun k => False) (fun k h => h.elim) (Only.of_below hb35), by rw [HBl.out]; exact HTs.out, by rw [HBl.out]; exact HOnT.out.trans (.of_below hb35)⟩
        rw [HG.out, HNx.out, HYs.out]
        exact own_mono HO5.out (by simp only [World.drew] at hb34; omega)
    have HEx := hid (show ∀ tv, exVal ⟨op, ia, ib, n⟩ x tv (tabP code ⟨op, ia, ib, n⟩).isSome = .iface 136 (.agg #[.int .i64 x]) from fun tv => by unfold exVal; rw [if_neg h0, if_neg h27, if_neg h28, if_neg h29, if_neg h30])
    have HNx := hid (show nextsP code ⟨op, ia, ib, n⟩ x = [] ++ [x] by unfold nextsP; rw [if_neg h0, if_neg h27, if_neg h28, if_neg h30])
    have hmt := mt_next x
    clear h0 h27 h28 h29 h30
    go_region_law (first
      | (go_simp; go_at_call 78; refine (exitOf_c code _ ⟨op, ia, ib, n⟩ x w3.drew (Rd.on HRd3.out ((Below.refl _ _).drew)) (fun a k c h => by cases h; exact hcap) HBy.out hlen HV.out).mono ?_; rintro e w4 ⟨tv, rfl, hown4, hb4⟩; rw [HEx.out tv]; have HO4 := hid hown4; have HB4 := hid hb4; clear hown4 hb4)
      | (go_simp; go_at_call 113; refine (nextWays_c x _).mono ?_; rintro e w5 ⟨v5, rfl, hown5, hb5⟩; have HO5 := hid hown5; have HB5 := hid hb5; obtain ⟨s5, c5, rfl⟩ := own_slice hown5; clear hown5 hb5))
    all_goals
      go_wp2_with fail
      go_ret
      have hb35 := (Below.refl w3.heap.size w3).drew.trans (HB4.out.trans (HB5.out.mono HB4.out.size))
      have hb34 := HB4.out.size
      refine ⟨_, _, rfl, ?_, HSt.out.on hgl (z := fun k => False) (fun k h => h.elim) (Only.of_below hb35), by rw [HBl.out]; exact HTs.out, by rw [HBl.out]; exact HOnT.out.trans (.of_below hb35)⟩
      rw [HG.out, HNx.out]
      exact own_mono HO5.out (by simp only [World.drew] at hb34; omega)
end Go.Proofs.YtiokmebmimgdjaaGreat.Wk
