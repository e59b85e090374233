/- The search in depth of the model; its order; what is reached without a node. -/
import Derived.Test.YtbbhbjdpdhbjlaaGt
set_option linter.unusedSimpArgs false
set_option linter.unusedVariables false
namespace Go.Proofs.Ytbbhbjdpdhbjlaa.Ge
open Go.RowKit Pl Ft Mm In Gp

def WaysPost2 (l : List Int) (w : World) (e : Ending) (w' : World) : Prop := ∃ v, e = .returned v ∧ w'.ownsRow w.heap.size 3 1 v l.length (ints l) ∧ Below w.heap.size w w'
/-- Block g holds at least n bools: these. -/
def BAt (w : World) (g n : Nat) (f : Nat → Bool) : Prop := ∃ cur, Row w g 4 cur ∧ ∀ j, j < n → cur[j]? = some (.bool (f j))
theorem BAt.cell {w : World} {g n : Nat} {f : Nat → Bool} (h : BAt w g n f) {j : Nat} (hj : j < n) : w.cell? ⟨g, j, none⟩ = some (.bool (f j)) := by
  obtain ⟨cur, hr, hc⟩ := h
  rw [hr.cell j]
  exact hc j hj
theorem BAt.lt {w : World} {g n : Nat} {f : Nat → Bool} (h : BAt w g n f) : g < w.heap.size := by obtain ⟨cur, hr, _⟩ := h; exact hr.lt
theorem BAt.on {w w' : World} {g n : Nat} {f : Nat → Bool} (h : BAt w g n f) (hb : Below w.heap.size w w') : BAt w' g n f := by
  obtain ⟨cur, hr, hc⟩ := h
  exact ⟨cur, hr.on hb, hc⟩
theorem BAt.set {w : World} {g n : Nat} {f : Nat → Bool} (h : BAt w g n f) {p : Nat} (hp : p < n) : BAt (w.setCell ⟨g, p, none⟩ (.bool true)) g n (fun q => f q || q == p) := by
  obtain ⟨cur, hr, hc⟩ := h
  refine ⟨_, hr.set p (.bool true), fun j hj => ?_⟩
  have hps : p < cur.size := by
    have := hc p hp
    exact (Array.getElem?_eq_some_iff.1 this).1
  by_cases hjp : j = p
  · subst hjp
    simp [hps]
  · rw [Array.getElem?_setIfInBounds_ne (fun e => hjp e.symm), hc j hj]
    have : (j == p) = false := by rw [beq_eq_false_iff_ne]; exact hjp
    show _ = some (Value.bool (f j || j == p))
    rw [this, Bool.or_false]
theorem BAt.only {q : Nat → Prop} {w w' : World} {g n : Nat} {f : Nat → Bool} (h : BAt w g n f) (hg : ¬ q g) (ho : Only q w w') : BAt w' g n f := by
  obtain ⟨cur, hr, hc⟩ := h
  exact ⟨cur, row_only hr hg ho, hc⟩
set_option maxRecDepth 100000 in
set_option maxHeartbeats 1000000 in
theorem trues_c (n g cap : Nat) (f : Nat → Bool) (w : World) (h : BAt w g n f) (hn : n ≤ 2000) :
    Calls Try.prog 64 #[.slice (some ⟨g, 0, none⟩) n cap] w (WaysPost2 (truesL f n) w) := by
  have HB := hid h
  have hgl := h.lt
  clear h
  have HB0 := hid ((Below.refl w.heap.size w).alloc (Nat.le_refl _) (.cells #[] 3))
  have HL := hid (own_lit w [] #[] rfl (by simp) 0 rfl)
  go_enter Try.func64, Try.ntmps64
  go_wp2_with fail
  go_loopw [3, 4] (fun v c wr => ∃ (k : Nat) (xs : List Int), c = .int .i64 k ∧ k ≤ n ∧ xs = truesL f k ∧ wr.ownsRow w.heap.size 3 1 v xs.length (ints xs) ∧ Below w.heap.size w wr) (fun _ c _ => n - (intOf c).toNat)
  case atStart => exact ⟨0, [], rfl, by omega, rfl, HL.out, HB0.out⟩
  case round =>
    obtain ⟨k, xs, rfl, hk, hxs, hown, hbel⟩ := hrel
    have HO := hid hown
    have HBe := hid hbel
    have HX := hid hxs
    have hxl : xs.length ≤ k := by rw [hxs]; exact truesL_len f k
    have hz := hbel.size
    have HBr := hid (HB.out.on hbel)
    obtain ⟨sv, cv, rfl⟩ := own_slice hown
    clear hown hbel hxs
    by_cases hlt : k < n
    · have hc := HBr.out.cell hlt
      cases hf : f k
      · rw [hf] at hc
        have HF := hid (truesL_no hf)
        clear hf
        go_wp2_with fail
        go_roundw
        case rel => exact ⟨k + 1, xs, by go_num, by omega, by rw [HF.out]; exact HX.out, HO.out, HBe.out⟩
        case measure => simp [intOf]; omega
      · rw [hf] at hc
        have HF := hid (truesL_yes hf)
        clear hf
        go_wp2_with (at_builtin; refine app_ints _ rfl _ _ rfl w.heap.size xs [(k : Int)] _ rfl (HO.out.alloc _) _ _ _ rfl rfl (SrcAt.at_ _ [(k : Int)] #[.int .i64 k] _ 1 rfl (by simp) rfl) (by simp; omega) (by simp; omega) ?_)
        intro v2 w2 hg2
        have HO2 := hid hg2.own
        have HB2 := hid ((HBe.out.alloc HBe.out.size (.cells #[.int .i64 k] 3)).trans hg2.bel)
        obtain ⟨s2, c2, rfl⟩ := own_slice hg2.own
        clear hg2 hc
        go_wp2_with fail
        go_roundw
        case rel => exact ⟨k + 1, xs ++ [(k : Int)], by go_num, by omega, by rw [HF.out, HX.out], HO2.out, HB2.out⟩
        case measure => simp [intOf]; omega
    · obtain rfl : k = n := by omega
      have HX2 := HX.out
      go_wp2_with fail
      go_ret
      exact ⟨_, rfl, by rw [← HX2]; exact HO.out, HBe.out⟩
theorem info_bool : (Try.prog.info? 4).map (fun i => (i.zero, i.size, i.bytes)) = some (some (.bool false), 1, 1) := by kernel_rfl
theorem BAt.of_own {w : World} {base n : Nat} {v : Value} {f : Nat → Bool} (h : w.ownsRow base 4 1 v n ((List.range n).map fun j => .bool (f j))) (hn : 0 < n) : ∃ g cap, v = .slice (some ⟨g, 0, none⟩) n cap ∧ base ≤ g ∧ BAt w g n f := by
  rcases h.2 with ⟨_, h0⟩ | ⟨g, cap, cur, rfl, hg, hr, hnc, hm, hs, ht⟩
  · omega
  · refine ⟨g, cap, rfl, hg, cur, hr, fun j hj => ?_⟩
    have h1 := congrArg (fun l => l[j]?) ht
    simp only [List.getElem?_take, Nat.mul_one, hj, if_true, List.getElem?_map, List.getElem?_range hj, Option.map_some] at h1
    rw [← Array.getElem?_toList]
    exact h1
theorem made_bools (n : Nat) : (madeCells (Value.cells (.bool false)) (n * 1)).toList = (List.range n).map fun _ => Value.bool false := by
  have e : Value.cells (.bool false) = #[.bool false] := rfl
  rw [e, toList_madeCells_one, Nat.mul_one, List.map_const', List.length_range]
theorem addr_add (g k : Nat) : (⟨g, 0, none⟩ : Addr).add k = ⟨g, k, none⟩ := by unfold Addr.add; split <;> simp_all
/-- The blocks of a searcher: itself, its truths; what it goes back over lies from B1 on. -/
structure MB (w0 : World) (bs gb B1 : Nat) : Prop where
  s0 : w0.heap.size ≤ bs
  g0 : w0.heap.size ≤ gb
  s1 : bs < B1
  g1 : gb < B1
  sg : bs ≠ gb
structure MS (w0 : World) (bs gb B1 N cb : Nat) (vg vb : Value) (ms lf : List Nat) (w : World) : Prop where
  st : Row w bs 68 #[vg, .slice (some ⟨gb, 0, none⟩) N cb, vb]
  seen : BAt w gb N (fun q => decide (q ∈ ms))
  own : w.ownsRow B1 3 1 vb (natI lf).length (ints (natI lf))
  sz : B1 ≤ w.heap.size
  bel : Below w0.heap.size w0 w
def MPost (L : Nat → List Nat) (w0 : World) (bs gb B1 N cb : Nat) (vg : Value) (qs ms lf : List Nat) (e : Ending) (w' : World) : Prop :=
  ∃ ms' lf' vb', e = .returned (.tuple #[]) ∧ Dfs L qs ms lf ms' lf' ∧ MS w0 bs gb B1 N cb vg vb' ms' lf' w'
theorem mem_snoc (ms : List Nat) (n : Nat) : (fun q => decide (q ∈ ms) || q == n) = fun q => decide (q ∈ ms ++ [n]) := by
  funext q
  rw [Bool.eq_iff_iff]
  simp
theorem lf_bound {L : Nat → List Nat} {N : Nat} {qs ms lf ms' lf' : List Nat} (h : Dfs L qs ms lf ms' lf') (hG : ∀ p, p < N → ∀ q ∈ L p, q < N) (hq : ∀ q ∈ qs, q < N) (hm : ∀ m ∈ ms, m < N) (hs : ∀ p ∈ lf, p ∈ ms) (hn : lf.Nodup) : lf'.length ≤ N ∧ lf'.Nodup ∧ ∀ p ∈ lf', p ∈ ms' := by
  obtain ⟨new, h1, h2, h3, h4, _⟩ := h.left
  subst h1
  have hsub : ∀ p ∈ lf ++ new, p ∈ ms' := fun p hp => by
    rcases List.mem_append.1 hp with h5 | h5
    · exact (h2 p).2 (.inl (hs p h5))
    · exact (h2 p).2 (.inr h5)
  have hnd : (lf ++ new).Nodup := by
    rw [List.nodup_append]
    exact ⟨hn, h3, fun x hx y hy e => h4 y hy (hs y (e ▸ hx))⟩
  exact ⟨nodup_le N _ hnd (fun p hp => h.lt hG hq hm p (hsub p hp)), hnd, hsub⟩
set_option maxRecDepth 100000 in
set_option maxHeartbeats 4000000 in
theorem go1_c (g : List (List Int)) (B : Nat) (w0 : World) (bs gb B1 cb : Nat) (vg : Value) (hok : okG g = true) (hg : GAt B w0 vg g) (hB : MB w0 bs gb B1) :
    ∀ (k n : Nat) (ms lf : List Nat) (vb : Value) (w : World), g.length ≤ ms.length + k → ms.Nodup → (∀ m ∈ ms, m < g.length) → n < g.length → (∀ p ∈ lf, p ∈ ms) → lf.Nodup → MS w0 bs gb B1 g.length cb vg vb ms lf w →
      Calls Try.prog 74 #[.pointer (some ⟨bs, 0, none⟩), .int .i64 n] w (MPost (adj g) w0 bs gb B1 g.length cb vg [n] ms lf) := by
  intro k
  induction k using Nat.strongRecOn with
  | ind k ih =>
    intro n ms lf vb w hk hnd hlt hn hsub hlnd hS
    obtain ⟨sg, cg, rfl⟩ := hg.slice
    have HG := hid hg
    have HB := hid hB
    have HNd := hid hnd
    have HLt := hid hlt
    have HSub := hid hsub
    have HLn := hid hlnd
    have HS := hid hS
    have IH := hid ih
    have HOk := hid hok
    have hlen := okG_len hok
    have s0 := hS.st.cell 0
    have s1 := hS.st.cell 1
    simp at s0 s1
    have t0 := hS.seen.cell hn
    clear hg hB hnd hlt hsub hlnd hS ih hok
    by_cases hin : n ∈ ms
    · rw [decide_eq_true hin] at t0
      have HIn := hid hin
      clear hin
      go_enter Try.func74, Try.ntmps74
      go_wp2_with fail
      go_end0
      exact ⟨ms, lf, vb, rfl, Dfs.one_skip n HIn.out, HS.out⟩
    · rw [decide_eq_false hin] at t0
      have HIn := hid hin
      have hfz : w.frozen? ⟨gb, n, none⟩ = false := by obtain ⟨cur, hcr, _⟩ := HS.out.seen; exact hcr.free n
      clear hin
      go_enter Try.func74, Try.ntmps74
      go_upto_region 2 with fail
      clear s0 s1 t0 hfz
      have ho1 : Only (fun k => k = gb) w (w.setCell ⟨gb, n, none⟩ (.bool true)) := (Only.refl (fun k => k = gb) w).setCell (g := gb) rfl n _
      have hb1 := HS.out.seen.set hn
      rw [mem_snoc] at hb1
      generalize w.setCell ⟨gb, n, none⟩ (.bool true) = w1 at ho1 hb1 ⊢
      have HS1 := hid (show MS w0 bs gb B1 g.length cb (.slice sg g.length cg) vb (ms ++ [n]) lf w1 from ⟨row_only HS.out.st HB.out.sg ho1, hb1, own_only HS.out.own (fun g' hg' h => by have := (HS.out.own.lt g' hg').1; have := HB.out.g1; omega) ho1, Nat.le_trans HS.out.sz ho1.size, HS.out.bel.trans (ho1.below HS.out.bel.size (fun k hk => by have := HB.out.g0; omega))⟩)
      have hnd2 := snoc_nodup HNd.out HIn.out
      have hlt2 := snoc_lt HLt.out hn
      have hle2 := nodup_le g.length _ hnd2 hlt2
      rw [List.length_append, List.length_singleton] at hle2
      have HN2 := hid hnd2
      have HL2 := hid hlt2
      have HAd := hid (adj_nat HOk.out hn)
      have HAl := hid (adj_len HOk.out hn)
      obtain ⟨b, o, cap, u, su, cu, hve, rfl, hu, hru, hku, hbB⟩ := HG.out.get hn
      simp only [Value.slice.injEq, true_and, and_true] at hve
      obtain ⟨rfl, rfl⟩ := hve
      have HU := hid hu
      have HRu := hid hru
      have HKu := hid hku
      have hblt : b < w0.heap.size := Nat.lt_of_lt_of_le hbB HG.out.le
      obtain ⟨l, hl9⟩ : ∃ l, g.getD n [] = l := ⟨_, rfl⟩
      have HL9 := hid hl9
      have hll : l.length ≤ 9 := by rw [← hl9]; exact (okG_at HOk.out hn).1
      rw [hl9] at HU HRu HKu HAd
      clear ho1 hb1 hnd2 hlt2 hu hru hku hl9
      go_wp2_with fail
      have hal : (adj g n).length = l.length := by rw [← HAd.out, natI_len]
      go_loopw [4] (fun y wr => ∃ (j : Nat) (ms' lf' : List Nat) (vb' : Value), y = .int .i64 j ∧ j ≤ l.length ∧ Dfs (adj g) ((adj g n).take j) (ms ++ [n]) lf ms' lf' ∧ MS w0 bs gb B1 g.length cb (.slice (some ⟨b, o, none⟩) g.length cg) vb' ms' lf' wr) (fun y _ => l.length - (intOf y).toNat)
      case atStart => exact ⟨0, _, _, vb, rfl, by omega, .nil _ _, HS1.out⟩
      case round =>
        obtain ⟨j, ms1, lf1, vb1, rfl, hj, hd, hSr⟩ := hrel
        have HD := hid hd
        have HSr := hid hSr
        have s0 := hSr.st.cell 0
        have s2 := hSr.st.cell 2
        simp at s0 s2
        have q0 : wr.cell? ⟨b, o + n, none⟩ = some (.slice su l.length cu) := by
          exact (hSr.bel.cell (p := ⟨b, o + n, none⟩) hblt).trans HU.out
        have hn1 : (n : Int) < g.length := by omega
        clear hd hSr
        by_cases hjt : j < l.length
        · have hr1 := Rd.on HRu.out HSr.out.bel
          obtain ⟨a9, c9, e9, h9⟩ := hr1
          rcases h9 with h9 | ⟨b2, o2, rfl, hb2, hc2⟩
          · rw [h9] at hjt; simp at hjt
          simp only [Value.slice.injEq, true_and, and_true] at e9
          obtain ⟨rfl, rfl⟩ := e9
          have q1 := hc2 j hjt
          have hx : l.getD j 0 = ((adj g n).getD j 0 : Nat) := by rw [← HAd.out, natI_get _ _ (by omega)]
          rw [hx] at q1
          have HT := hid (take_snoc (adj g n) j (by omega))
          have hqm : (adj g n).getD j 0 ∈ adj g n := by simp [show j < (adj g n).length by omega]
          obtain ⟨q, hqq⟩ : ∃ q, (adj g n).getD j 0 = q := ⟨_, rfl⟩
          rw [hqq] at q1 HT hqm
          have hqN := (adj_bd HOk.out).bd n hn q hqm
          have hlf := lf_bound HD.out (adj_bd HOk.out).bd (fun x hx => (adj_bd HOk.out).bd n hn x (List.mem_of_mem_take hx)) HL2.out (fun p hp => by have := HSub.out p hp; simp [this]) HLn.out
          have HLf := hid hlf
          have hlen1 := HD.out.len
          rw [List.length_append, List.length_singleton] at hlen1
          have HM1 := hid (show ms1.Nodup ∧ ∀ m ∈ ms1, m < g.length from ⟨HD.out.nodup HN2.out, HD.out.lt (adj_bd HOk.out).bd (fun x hx => (adj_bd HOk.out).bd n hn x (List.mem_of_mem_take hx)) HL2.out⟩)
          have hk1 : k - 1 < k := by omega
          have hk2 : g.length ≤ ms1.length + (k - 1) := by omega
          clear hc2 hx hqq hqm hlf s2
          go_wp2_with fail
          refine (IH.out (k - 1) hk1 q ms1 lf1 vb1 wr hk2 HM1.out.1 HM1.out.2 hqN HLf.out.2.2 HLf.out.2.1 HSr.out).mono ?_
          rintro e w2 ⟨ms2, lf2, vb2, rfl, hd2, hS2⟩
          have HD2 := hid hd2
          have HS2 := hid hS2
          clear hd2 hS2 s0 q0 q1
          go_wp2_with fail
          go_roundw
          case rel => exact ⟨j + 1, ms2, lf2, vb2, by go_num, by omega, by rw [HT.out]; exact HD.out.append HD2.out, HS2.out⟩
          case measure => simp [intOf]; omega
        · obtain rfl : j = l.length := by omega
          have HD3 := hid (show Dfs (adj g) (adj g n) (ms ++ [n]) lf ms1 lf1 by have h := HD.out; rwa [List.take_of_length_le (by omega)] at h)
          have hlf := lf_bound HD3.out (adj_bd HOk.out).bd (fun x hx => (adj_bd HOk.out).bd n hn x hx) HL2.out (fun p hp => by have := HSub.out p hp; simp [this]) HLn.out
          obtain ⟨xs, hxs⟩ : ∃ xs, natI lf1 = xs := ⟨_, rfl⟩
          have HXs := hid hxs
          have hxl : xs.length ≤ 1000 := by rw [← hxs, natI_len]; omega
          have hown := HSr.out.own
          rw [hxs] at hown
          have HOw := hid hown
          obtain ⟨s3, c3, rfl⟩ := own_slice hown
          have sf := HSr.out.st.free
          have hsz := HSr.out.sz
          clear hlf hxs hown
          go_wp2_with (at_builtin; refine app_ints _ rfl _ _ rfl B1 xs [(n : Int)] _ rfl (HOw.out.alloc _) _ _ _ rfl rfl (SrcAt.at_ _ [(n : Int)] #[.int .i64 n] _ 1 rfl (by simp) rfl) (by simp; omega) (by simp; omega) ?_; intro v7 w7 hg7; have HG7 := hid hg7; have hba := (Below.refl wr.heap.size wr).alloc (Nat.le_refl _) (.cells #[.int .i64 n] 3); have HBa := hid hba; have hr7 := hg7.row (HSr.out.st.on hba) (no_own (HSr.out.st.on hba) (HOw.out.alloc (.cells #[.int .i64 n] 3)) (by decide)); have HR7 := hid hr7; have hown7 := hg7.own; obtain ⟨ys, hys⟩ : ∃ z, xs ++ [(n : Int)] = z := ⟨_, rfl⟩; rw [hys] at hown7; have HYs := hid hys; have HO7 := hid hown7; obtain ⟨s7, c7, rfl⟩ := own_slice hown7; have l7 := hr7.free; have l8 := hr7.cell 2; simp at l8; clear hg7 hba hr7 hown7 hys)
          clear s0 s2 q0 sf l7 l8
          go_end0
          have hr8 := HR7.out.set 2 (.slice s7 ys.length c7)
          have o67 : Only (fun k => (Value.slice s3 xs.length c3).ownBlock = some k) wr w7 := (Only.of_below HBa.out).trans (grows_only HG7.out)
          have o78 : Only (fun k => k = bs) w7 (w7.setCell ⟨bs, 2, none⟩ (.slice s7 ys.length c7)) := (Only.refl (fun k => k = bs) w7).setCell (g := bs) rfl 2 _
          have o68 : Only (fun k => k = bs ∨ (Value.slice s3 xs.length c3).ownBlock = some k) wr (w7.setCell ⟨bs, 2, none⟩ (.slice s7 ys.length c7)) := (o67.mono (fun k hk => .inr hk)).trans (o78.mono (fun k hk => .inl hk))
          have hown : ∀ k, (Value.slice s3 xs.length c3).ownBlock = some k → B1 ≤ k := fun k hk => (HOw.out.lt k hk).1
          have hy : natI (lf1 ++ [n]) = ys := by rw [natI_app, HXs.out, ← HYs.out]; rfl
          refine ⟨ms1, lf1 ++ [n], .slice s7 ys.length c7, rfl, Dfs.one HIn.out HD3.out, hr8, HSr.out.seen.only (fun h => ?_) o68, ?_, Nat.le_trans HSr.out.sz o68.size, HSr.out.bel.trans (o68.below HSr.out.bel.size (fun k hk => ?_))⟩
          · rcases h with h | h
            · exact HB.out.sg h.symm
            · have := hown gb h; have := HB.out.g1; omega
          · rw [hy]
            exact own_only (p := fun k => k = bs) HO7.out (fun g' hg' h => by have := (HO7.out.lt g' hg').1; have := HB.out.s1; omega) o78
          · rcases hk with h | h
            · rw [h]; exact HB.out.s0
            · have := hown k h; have := HB.out.s0; have := HB.out.s1; omega
theorem BAt.put {w : World} {g n : Nat} {f : Nat → Bool} (h : BAt w g n f) {p : Nat} (hp : p < n) (b : Bool) : BAt (w.setCell ⟨g, p, none⟩ (.bool b)) g n (fun q => if q = p then b else f q) := by
  obtain ⟨cur, hr, hc⟩ := h
  refine ⟨_, hr.set p (.bool b), fun j hj => ?_⟩
  have hps : p < cur.size := by
    have := hc p hp
    exact (Array.getElem?_eq_some_iff.1 this).1
  by_cases hjp : j = p
  · subst hjp
    simp [hps]
  · rw [Array.getElem?_setIfInBounds_ne (fun e => hjp e.symm), hc j hj]
    show _ = some (Value.bool (if j = p then b else f j))
    rw [if_neg hjp]
theorem take_rev (xs : List Int) (j : Nat) (h : j < xs.length) : xs.reverse.take (j + 1) = xs.reverse.take j ++ [xs.getD (xs.length - 1 - j) 0] := by
  rw [List.take_succ_eq_append_getElem (by simpa using h)]
  simp [show xs.length - 1 - j < xs.length by omega]
set_option maxRecDepth 100000 in
set_option maxHeartbeats 4000000 in
theorem order_c (g : List (List Int)) (B : Nat) (vg : Value) (w : World) (hok : okG g = true) (hg : GAt B w vg g) :
    Calls Try.prog 50 #[vg] w (WaysPost (natI (orderP (adj g))) w) := by
  obtain ⟨sg, cg, rfl⟩ := hg.slice
  have HG := hid hg
  have HOk := hid hok
  have hlen := okG_len hok
  obtain ⟨os, hos⟩ : ∃ os, natI (orderP (adj g)) = os := ⟨_, rfl⟩
  have HOs := hid hos
  rw [hos]
  obtain ⟨i0, hi, hz0, hz1, hz2⟩ := info_parts info_bool
  have H0 := hid hz0
  have H1 := hid hz1
  have H2 := hid hz2
  have HI := hid hi
  clear hz0 hz1 hz2 hi hg hok hos
  go_enter Try.func50, Try.ntmps50
  go_wp2_with (refine wpList_make_full _ rfl _ _ 57 rfl w.heap.size 4 i0 (.bool false) 1 Try.underlying57 HI.out H0.out H1.out .i64 .i64 _ _ g.length rfl rfl rfl rfl (by rw [H2.out]; omega) (by simp only [maxLen]; omega) (Nat.le_refl _) ?_; intro w1 hown1 hg1)
  rw [made_bools] at hown1
  obtain ⟨g0, c0, he0, hg0, hbat⟩ := BAt.of_own (f := fun _ => false) hown1 (by omega)
  simp only [Value.slice.injEq, Option.some.injEq, Addr.mk.injEq, true_and, and_true] at he0
  obtain ⟨rfl, rfl⟩ := he0
  have HB1 := hid ((Below.refl w.heap.size w).grown hg1 (Nat.le_refl _) (by simp))
  have hgb1 := hbat.lt
  have HBt := hid hbat
  have hz1 := HB1.out.size
  clear hown1 hg1 hbat
  have hmb : MB w w1.heap.size w.heap.size (w1.heap.size + 1) := ⟨hz1, Nat.le_refl _, by omega, by omega, by omega⟩
  have hms : MS w w1.heap.size w.heap.size (w1.heap.size + 1) g.length g.length (.slice sg g.length cg) (.slice none 0 0) [] [] (w1.alloc (.cells #[.slice sg g.length cg, .slice (some ⟨w.heap.size, 0, none⟩) g.length g.length, .slice none 0 0] 68)) :=
    ⟨Row.new w1 68 _, HBt.out.on ((Below.refl w1.heap.size w1).alloc (Nat.le_refl _) _), World.ownsRow_nil _ _ _ _, by simp, HB1.out.alloc hz1 _⟩
  have hgo := go1_c g B w w1.heap.size w.heap.size (w1.heap.size + 1) g.length (.slice sg g.length cg) HOk.out HG.out hmb g.length 0 [] [] (.slice none 0 0) _ (by simp) List.nodup_nil (by simp) hlen.1 (by simp) List.nodup_nil hms
  have HGo := hid hgo
  clear hmb hms hgo
  go_wp2_with fail
  refine HGo.out.mono ?_
  rintro e w3 ⟨ms, lf, vb, rfl, hd, hS⟩
  have hlb := lf_bound hd (adj_bd HOk.out).bd (st_lt (adj_bd HOk.out)) (by simp) (by simp) List.nodup_nil
  obtain ⟨xs, hxs⟩ : ∃ xs, natI lf = xs := ⟨_, rfl⟩
  have hxl : xs.length ≤ 30 := by rw [← hxs, natI_len]; omega
  have hor : xs.reverse = os := by
    rw [← HOs.out, ← hxs, natI_rev]
    unfold orderP
    rw [Gp.leftOf_eq hd]
  have HOr := hid hor
  have hown := hS.own
  rw [hxs] at hown
  have HOw := hid hown
  have HRd := hid (Rd.of_own hown)
  have HSt := hid hS.st
  have HB3 := hid hS.bel
  have hz3 := hS.bel.size
  have hsl := hS.st.lt
  obtain ⟨s3, c3, rfl⟩ := own_slice hown
  have s2 := hS.st.cell 2
  simp at s2
  clear hd hS hlb hxs hor hown HGo
  go_upto_region 5 with fail
  clear s2
  have hb4 := (Below.refl w3.heap.size w3).alloc (Nat.le_refl _) (.cells #[] 3)
  have HL4 := hid (own_lit w3 [] #[] rfl (by simp) 0 rfl)
  have HKb := hid (fun k hk => (HOw.out.lt k hk).2)
  obtain ⟨w4, hw4⟩ : ∃ w4, w3.alloc (.cells #[] 3) = w4 := ⟨_, rfl⟩
  rw [hw4] at hb4 HL4 ⊢
  have HSt4 := hid (HSt.out.on hb4)
  have HRd4 := hid (HRd.out.on hb4)
  have HB4 := hid (HB3.out.trans (hb4.mono hz3))
  have hz4 := hb4.size
  clear hw4 hb4
  go_loopw [4, 5] (fun v y wr => ∃ (j : Nat) (ys : List Int), y = .int .i64 ((xs.length : Int) - 1 - j) ∧ j ≤ xs.length ∧ ys = xs.reverse.take j ∧ w3.heap.size ≤ wr.heap.size ∧ wr.ownsRow w3.heap.size 3 1 v ys.length (ints ys) ∧ Below w.heap.size w wr ∧ Row wr w1.heap.size 68 #[.slice sg g.length cg, .slice (some ⟨w.heap.size, 0, none⟩) g.length g.length, .slice s3 xs.length c3] ∧ Rd wr (.slice s3 xs.length c3) xs) (fun _ y _ => (intOf y + 1).toNat)
  case atStart => exact ⟨0, [], by simp, by omega, by simp, hz4, HL4.out, HB4.out, HSt4.out, HRd4.out⟩
  case round =>
    obtain ⟨j, ys, rfl, hj, hys, hz3r, hown, hbel, hst, hrd⟩ := hrel
    have HO := hid hown
    have HBe := hid hbel
    have HS := hid hst
    have HR := hid hrd
    have HY := hid hys
    have hyl : ys.length ≤ 30 := by rw [hys, List.length_take]; omega
    have hzr := hbel.size
    obtain ⟨sv, cv, rfl⟩ := own_slice hown
    have s2 := hst.cell 2
    simp at s2
    clear hown hbel hst hrd hys
    by_cases hlt : j < xs.length
    · obtain ⟨a9, c9, e9, h9⟩ := HR.out
      rcases h9 with h9 | ⟨b2, o2, rfl, hb2, hc2⟩
      · rw [h9] at hlt; simp at hlt
      simp only [Value.slice.injEq, true_and, and_true] at e9
      obtain ⟨rfl, rfl⟩ := e9
      obtain ⟨m, hm⟩ : ∃ m, xs.length - 1 - j = m := ⟨_, rfl⟩
      have q1 := hc2 m (by omega)
      have HT := hid (show xs.reverse.take (j + 1) = ys ++ [xs.getD m 0] by rw [take_rev xs j hlt, HY.out, hm])
      obtain ⟨x, hx⟩ : ∃ x, xs.getD m 0 = x := ⟨_, rfl⟩
      rw [hx] at q1 HT
      have hme : (xs.length : Int) - 1 - j = (m : Int) := by omega
      rw [hme]
      have hmj : m < xs.length := by omega
      have HMe := hid hm
      clear hc2 hx hm hme
      go_wp2_with (at_builtin; refine app_ints _ rfl _ _ rfl w3.heap.size ys [x] _ rfl (HO.out.alloc _) _ _ _ rfl rfl (SrcAt.at_ _ [x] #[.int .i64 x] _ 1 rfl (by simp) rfl) (by simp; omega) (by simp; omega) ?_; intro v7 w7 hg7; have HG7 := hid hg7; have hba := (Below.refl wr.heap.size wr).alloc (Nat.le_refl _) (.cells #[.int .i64 x] 3); have HBa := hid hba; have hown7 := hg7.own; obtain ⟨zs, hzs⟩ : ∃ z, ys ++ [x] = z := ⟨_, rfl⟩; rw [hzs] at hown7; have HZs := hid hzs; have HO7 := hid hown7; obtain ⟨s7, c7, rfl⟩ := own_slice hown7; clear hg7 hba hown7 hzs)
      go_wp2_with fail
      go_roundw
      case rel =>
        have o67 : Only (fun k => (Value.slice sv ys.length cv).ownBlock = some k) wr w7 := (Only.of_below HBa.out).trans (grows_only HG7.out)
        have hne : (Value.slice sv ys.length cv).ownBlock ≠ some w1.heap.size := no_own HS.out HO.out (by decide)
        have hkb : ∀ k, (Value.slice (some ⟨b2, o2, none⟩) xs.length c3).ownBlock = some k → k < w3.heap.size := HKb.out
        have hown : ∀ k, (Value.slice sv ys.length cv).ownBlock = some k → w3.heap.size ≤ k := fun k hk => (HO.out.lt k hk).1
        exact ⟨j + 1, zs, by have := HMe.out; congr 1; omega, by omega, by rw [HT.out, HZs.out], Nat.le_trans hz3r o67.size, HO7.out, HBe.out.trans (o67.below hzr (fun k hk => by have := hown k hk; omega)), row_only HS.out (fun h => hne h) o67, Rd.only HR.out (fun k hk h => by have := hkb k hk; have := hown k h; omega) o67⟩
      case measure => simp [intOf]
    · obtain rfl : j = xs.length := by omega
      go_wp2_with fail
      go_ret
      exact ⟨_, rfl, by rw [← HOr.out]; have h := HY.out; rw [List.take_of_length_le (by simp)] at h; rw [← h]; exact own_mono HO.out hz3, HBe.out⟩
/-- The truths that the model hands on: which nodes are reached without one. -/
def WoPost (g : List (List Int)) (n : Nat) (w : World) (e : Ending) (w' : World) : Prop :=
  ∃ gb f, e = .returned (.slice (some ⟨gb, 0, none⟩) g.length g.length) ∧ BAt w' gb g.length f ∧ (∀ q, q < g.length → (f q = true ↔ Av (adj g) [n] [0] q)) ∧ w.heap.size ≤ gb ∧ Below w.heap.size w w'
set_option maxRecDepth 100000 in
set_option maxHeartbeats 4000000 in
theorem without_c (g : List (List Int)) (B n : Nat) (vg : Value) (w : World) (hok : okG g = true) (hg : GAt B w vg g) (hn : n < g.length) :
    Calls Try.prog 78 #[vg, .int .i64 n] w (WoPost g n w) := by
  obtain ⟨sg, cg, rfl⟩ := hg.slice
  have HG := hid hg
  have HOk := hid hok
  have hlen := okG_len hok
  obtain ⟨i0, hi, hz0, hz1, hz2⟩ := info_parts info_bool
  have H0 := hid hz0
  have H1 := hid hz1
  have H2 := hid hz2
  have HI := hid hi
  clear hz0 hz1 hz2 hi hg hok
  go_enter Try.func78, Try.ntmps78
  go_upto_region 2 with (refine wpList_make_full _ rfl _ _ 57 rfl w.heap.size 4 i0 (.bool false) 1 Try.underlying57 HI.out H0.out H1.out .i64 .i64 _ _ g.length rfl rfl rfl rfl (by rw [H2.out]; omega) (by simp only [maxLen]; omega) (Nat.le_refl _) ?_; intro w1 hown1 hg1)
  rw [made_bools] at hown1
  obtain ⟨g0, c0, he0, hg0, hbat⟩ := BAt.of_own (f := fun _ => false) hown1 (by omega)
  simp only [Value.slice.injEq, Option.some.injEq, Addr.mk.injEq, true_and, and_true] at he0
  obtain ⟨rfl, rfl⟩ := he0
  have HB1 := hid ((Below.refl w.heap.size w).grown hg1 (Nat.le_refl _) (by simp))
  have hgb1 := hbat.lt
  have HBt := hid hbat
  have hz1 := HB1.out.size
  clear hown1 hg1 hbat
  obtain ⟨w2, hw2⟩ : ∃ w2, w1.alloc (.cells #[.slice sg g.length cg, .slice (some ⟨w.heap.size, 0, none⟩) g.length g.length, .slice none 0 0] 68) = w2 := ⟨_, rfl⟩
  have hz2 : w2.heap.size = w1.heap.size + 1 := by rw [← hw2]; simp
  have hr2 := Row.new w1 68 #[.slice sg g.length cg, .slice (some ⟨w.heap.size, 0, none⟩) g.length g.length, .slice none 0 0]
  have hb2 := HB1.out.alloc hz1 (.cells #[.slice sg g.length cg, .slice (some ⟨w.heap.size, 0, none⟩) g.length g.length, .slice none 0 0] 68)
  have ht2 := HBt.out.on ((Below.refl w1.heap.size w1).alloc (Nat.le_refl _) (.cells #[.slice sg g.length cg, .slice (some ⟨w.heap.size, 0, none⟩) g.length g.length, .slice none 0 0] 68))
  rw [hw2] at hr2 hb2 ht2 ⊢
  have HR2 := hid hr2
  have HB2 := hid hb2
  have HT2 := hid ht2
  have HZ2 := hid hz2
  have s1 := hr2.cell 1
  simp at s1
  have t0 : w2.cell? ⟨w.heap.size, n, none⟩ = some (.bool false) := ht2.cell hn
  have tf : w2.frozen? ⟨w.heap.size, n, none⟩ = false := by obtain ⟨cur, hcr, _⟩ := ht2; exact hcr.free n
  clear hw2 hr2 hb2 ht2 hz2
  obtain ⟨gb, hgb⟩ : ∃ gb, w.heap.size = gb := ⟨_, rfl⟩
  rw [hgb] at HR2 HT2 hz1 hgb1 s1 t0 tf ⊢
  have HGb := hid hgb
  clear hgb
  go_upto_region 3 with fail
  clear s1 t0 tf
  have ho3 : Only (fun k => k = gb) w2 (w2.setCell ⟨gb, n, none⟩ (.bool true)) := (Only.refl (fun k => k = gb) w2).setCell (g := gb) rfl n _
  have ht3 := HT2.out.set hn
  have e3 : (fun q => (fun _ => false) q || q == n) = fun q => decide (q ∈ [n]) := by
    funext q
    rw [Bool.eq_iff_iff]
    simp
  rw [e3] at ht3
  generalize w2.setCell ⟨gb, n, none⟩ (.bool true) = w3 at ho3 ht3 ⊢
  have hmb : MB w w1.heap.size gb (w1.heap.size + 1) := ⟨by rw [HGb.out]; exact hz1, by rw [HGb.out]; exact Nat.le_refl _, by omega, by omega, by omega⟩
  have hms : MS w w1.heap.size gb (w1.heap.size + 1) g.length g.length (.slice sg g.length cg) (.slice none 0 0) [n] [] w3 :=
    ⟨row_only HR2.out (by omega) ho3, ht3, World.ownsRow_nil _ _ _ _, by have := HZ2.out; have := ho3.size; omega, HB2.out.trans (ho3.below HB2.out.size (fun k hk => by have := HGb.out; omega))⟩
  have hgo := go1_c g B w w1.heap.size gb (w1.heap.size + 1) g.length (.slice sg g.length cg) HOk.out HG.out hmb g.length 0 [n] [] (.slice none 0 0) _ (by simp) (by simp) (by simpa using hn) hlen.1 (by simp) List.nodup_nil hms
  have HGo := hid hgo
  clear ho3 ht3 e3 hmb hms hgo
  go_wp2_with fail
  refine HGo.out.mono ?_
  rintro e w4 ⟨ms, lf, vb, rfl, hd, hS⟩
  have HD := hid hd
  have HS := hid hS
  have s1 := hS.st.cell 1
  simp at s1
  have t0 := hS.seen.cell hn
  have tf : w4.frozen? ⟨gb, n, none⟩ = false := by obtain ⟨cur, hcr, _⟩ := hS.seen; exact hcr.free n
  clear hd hS HGo
  go_upto_region 5 with fail
  clear s1 t0 tf
  have ho5 : Only (fun k => k = gb) w4 (w4.setCell ⟨gb, n, none⟩ (.bool false)) := (Only.refl (fun k => k = gb) w4).setCell (g := gb) rfl n _
  have ht5 := HS.out.seen.put hn false
  generalize w4.setCell ⟨gb, n, none⟩ (.bool false) = w5 at ho5 ht5 ⊢
  have hr5 := row_only HS.out.st (by omega) ho5
  have HB5 := hid (HS.out.bel.trans (ho5.below HS.out.bel.size (fun k hk => by have := HGb.out; omega)))
  have HT5 := hid ht5
  have s1 := hr5.cell 1
  simp at s1
  clear ho5 ht5 hr5
  go_wp2_with fail
  go_ret
  refine ⟨gb, _, rfl, HT5.out, fun q hq => ?_, by rw [HGb.out]; exact Nat.le_refl _, HB5.out⟩
  have hset := HD.out.set q
  by_cases hqn : q = n
  · rw [if_pos hqn]
    subst hqn
    exact ⟨fun h => (by cases h), fun h => absurd (Av.not h) (by simp)⟩
  · rw [if_neg hqn, decide_eq_true_iff, hset]
    exact ⟨fun h => h.elim (fun h1 => absurd (by simpa using h1) hqn) id, .inr⟩
end Go.Proofs.Ytbbhbjdpdhbjlaa.Ge
