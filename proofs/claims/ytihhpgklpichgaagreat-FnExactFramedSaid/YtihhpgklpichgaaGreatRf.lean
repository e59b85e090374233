/- The search in depth of the program: a closure that calls itself, along whatever function tells where places lead; that may write memory of its own. -/
import Derived.Test.YtihhpgklpichgaaGreatMb
import Derived.Test.YtihhpgklpichgaaGreatGp
import Derived.Laws.EntriesVeiled
import Derived.Deep.RegionLaw
import Derived.Deep.RegionWith
import Derived.Deep.DeepCutAuto
set_option linter.unusedSimpArgs false
set_option linter.unusedVariables false
namespace Go.Proofs.YtihhpgklpichgaaGreat.Wk
open Go.RowKit Pl Ft Mm In C2 Im Sw Gp

def natI (l : List Nat) : List Int := l.map fun (p : Nat) => (p : Int)
theorem natI_len (l : List Nat) : (natI l).length = l.length := by simp [natI]
theorem natI_app (a b : List Nat) : natI (a ++ b) = natI a ++ natI b := by simp [natI]
theorem natI_get (l : List Nat) (k : Nat) (h : k < l.length) : (natI l).getD k 0 = (l.getD k 0 : Nat) := by simp [natI, h]
theorem only_fresh {p : Nat → Prop} {B : Nat} {w w1 w2 : World} (h : Only p w w1) (hb : Below B w1 w2) (hB : w.heap.size ≤ B) : Only p w w2 :=
  ⟨hb.os.trans h.os, hb.tape.trans h.tape, hb.output.trans h.output, Nat.le_trans h.size hb.size, fun k hk hne => (hb.block k (by omega)).trans (h.block k hk hne)⟩
theorem only_mix {p q : Nat → Prop} {w0 w w' : World} (h : Only p w0 w) (ho : Only q w w') (hq : ∀ k, q k → p k ∨ w0.heap.size ≤ k) : Only p w0 w' :=
  ⟨ho.os.trans h.os, ho.tape.trans h.tape, ho.output.trans h.output, Nat.le_trans h.size ho.size, fun k hk hn => (ho.block k (Nat.lt_of_lt_of_le hk h.size) (fun hqk => by
    rcases hq k hqk with h1 | h1
    · exact hn h1
    · omega)).trans (h.block k hk hn)⟩
theorem grows_only {B : Nat} {xs : List Int} {v v' : Value} {w w' : World} (h : Grows B xs v v' w w') : Only (fun k => v.ownBlock = some k) w w' :=
  ⟨h.bel.os, h.bel.tape, h.bel.output, h.bel.size, fun k hk hn => h.far k hk hn⟩
def lenOf : Value → Nat
  | .slice _ n _ => n
  | _ => 0
/-- Where a place may come from that is asked: a beginning, or one that was asked leads to it. -/
def Fr (L : Nat → List Nat) (S ms : List Nat) (q : Nat) : Prop := q ∈ S ∨ ∃ u ∈ ms, q ∈ L u
theorem Fr.mono {L : Nat → List Nat} {S ms ms' : List Nat} {q : Nat} (h : Fr L S ms q) (hm : ∀ m ∈ ms, m ∈ ms') : Fr L S ms' q := h.imp id (fun ⟨u, hu, hq⟩ => ⟨u, hm u hu, hq⟩)
theorem Fr.av {L : Nat → List Nat} {S ms : List Nat} {q : Nat} (h : Fr L S ms q) (hm : ∀ m ∈ ms, Av L [] S m) : Av L [] S q := by
  rcases h with h | ⟨u, hu, hq⟩
  · exact .start q h (by simp)
  · exact .step u q (hm u hu) hq (by simp)
/-- What the function does that tells where places lead: T: the blocks on which its state stands. -/
structure LeadsF (L : Nat → List Nat) (S : List Nat) (N : Nat) (F : Nat) (rs cs : Array Value) (I : List Nat → (Nat → Prop) → World → Prop) : Prop where
  call : ∀ (ms : List Nat) (T : Nat → Prop) (p : Nat) (w : World), I ms T w → p < N → p ∉ ms → Av L [] S p → Fr L S ms p → Calls Tryz.prog F (rs.push (.int .i64 p) ++ cs) w fun e w' => ∃ v T', e = .returned v ∧ Rd w' v (natI (L p)) ∧ (∀ k, v.ownBlock = some k → w.heap.size ≤ k ∧ ¬ T' k) ∧ I (ms ++ [p]) T' w' ∧ (∀ k, T' k → T k ∨ w.heap.size ≤ k) ∧ Only T w w'
  enter : ∀ (xs : Array Value) (w : World), (callFunc F xs).run Tryz.prog w = .ok (.enter F xs) w
  on : ∀ ms T w w' (z : Nat → Prop), I ms T w → (∀ k, z k → ¬ T k) → Only z w w' → I ms T w'
  lt : ∀ ms T w, I ms T w → ∀ k, T k → k < w.heap.size
  len : ∀ p, p < N → (L p).length ≤ 1000000
/-- The blocks of a search: boxes of what was met, of the closure, of the function, of what was left; the map. -/
structure SB (w0 : World) (bm gm bs bf bl B1 : Nat) : Prop where
  m0 : w0.heap.size ≤ bm
  g0 : w0.heap.size ≤ gm
  s0 : w0.heap.size ≤ bs
  f0 : w0.heap.size ≤ bf
  l0 : w0.heap.size ≤ bl
  m1 : bm < B1
  g1 : gm < B1
  s1 : bs < B1
  f1 : bf < B1
  l1 : bl < B1
  mg : bm ≠ gm
  ml : bm ≠ bl
  gs : gm ≠ bs
  gf : gm ≠ bf
  gl : gm ≠ bl
  sl : bs ≠ bl
  fl : bf ≠ bl
structure SS (T0 : Nat → Prop) (I : List Nat → (Nat → Prop) → World → Prop) (w0 : World) (bm gm bs bf bl B1 : Nat) (fv lv : Value) (ms mc lf : List Nat) (T : Nat → Prop) (w : World) : Prop where
  m : Row w bm 121 #[.map (some gm)]
  set : SetAt w gm ms
  s : Row w bs 120 #[.func (.func 104) #[] #[.pointer (some ⟨bm, 0, none⟩), .pointer (some ⟨bs, 0, none⟩), .pointer (some ⟨bf, 0, none⟩), .pointer (some ⟨bl, 0, none⟩)]]
  f : Row w bf 63 #[fv]
  l : Row w bl 22 #[lv]
  own : w.ownsRow B1 3 1 lv (natI lf).length (ints (natI lf))
  sz : B1 ≤ w.heap.size
  only : Only T0 w0 w
  st : I mc T w
  old : ∀ k, T k → (T0 k ∧ k < w0.heap.size) ∨ B1 ≤ k
  no : ∀ k, lv.ownBlock = some k → ¬ T k
/-- What a search turns. -/
def sT (gm bl : Nat) (lv : Value) (T : Nat → Prop) : Nat → Prop := fun k => k = gm ∨ k = bl ∨ lv.ownBlock = some k ∨ T k
/-- What a call of the closure makes: a search on from where it stood. -/
def SPost (L : Nat → List Nat) (T0 : Nat → Prop) (I : List Nat → (Nat → Prop) → World → Prop) (w0 : World) (bm gm bs bf bl B1 : Nat) (fv : Value) (qs ms lf : List Nat) (lv : Value) (T : Nat → Prop) (w : World) (e : Ending) (w' : World) : Prop :=
  ∃ ms' lf' lv' T', e = .returned (.tuple #[]) ∧ Dfs L qs ms lf ms' lf' ∧ SS T0 I w0 bm gm bs bf bl B1 fv lv' ms' ms' lf' T' w' ∧ (∀ k, lv'.ownBlock = some k → lv.ownBlock = some k ∨ w.heap.size ≤ k) ∧ (∀ k, T' k → T k ∨ w.heap.size ≤ k) ∧ Only (sT gm bl lv T) w w'
/-- Where a search stands within its places. -/
structure SRel (L : Nat → List Nat) (T0 : Nat → Prop) (I : List Nat → (Nat → Prop) → World → Prop) (w0 : World) (bm gm bs bf bl B1 : Nat) (fv : Value) (qs ms lf : List Nat) (lv : Value) (T : Nat → Prop) (w : World) (k : Nat) (ms' lf' : List Nat) (lv' : Value) (T' : Nat → Prop) (wr : World) : Prop where
  dfs : Dfs L (qs.take k) ms lf ms' lf'
  st : SS T0 I w0 bm gm bs bf bl B1 fv lv' ms' ms' lf' T' wr
  at_ : ∀ k, lv'.ownBlock = some k → lv.ownBlock = some k ∨ w.heap.size ≤ k
  tat : ∀ k, T' k → T k ∨ w.heap.size ≤ k
  only : Only (sT gm bl lv T) w wr
theorem SRel.mix {gm bl : Nat} {lv lv' : Value} {T T' : Nat → Prop} {w wr w' : World} (h : Only (sT gm bl lv T) w wr) (hat : ∀ k, lv'.ownBlock = some k → lv.ownBlock = some k ∨ w.heap.size ≤ k) (htt : ∀ k, T' k → T k ∨ w.heap.size ≤ k) (ho : Only (sT gm bl lv' T') wr w') : Only (sT gm bl lv T) w w' := by
  refine only_mix h ho (fun k hk => ?_)
  rcases hk with h1 | h1 | h1 | h1
  · exact .inl (.inl h1)
  · exact .inl (.inr (.inl h1))
  · rcases hat k h1 with h2 | h2
    · exact .inl (.inr (.inr (.inl h2)))
    · exact .inr h2
  · rcases htt k h1 with h2 | h2
    · exact .inl (.inr (.inr (.inr h2)))
    · exact .inr h2
theorem take_snoc (qs : List Nat) (k : Nat) (h : k < qs.length) : qs.take (k + 1) = qs.take k ++ [qs.getD k 0] := by
  rw [List.take_succ_eq_append_getElem h]
  simp [h]
theorem snoc_mem {ms : List Nat} {q : Nat} {P : Nat → Prop} (hm : ∀ m ∈ ms, P m) (h : P q) : ∀ m ∈ ms ++ [q], P m := by
  intro m hm2
  rcases List.mem_append.1 hm2 with h1 | h1
  · exact hm m h1
  · obtain rfl : m = q := by simpa using h1
    exact h
theorem SS.box {T0 : Nat → Prop} {I : List Nat → (Nat → Prop) → World → Prop} {w0 : World} {bm gm bs bf bl B1 : Nat} {fv lv : Value} {ms mc lf : List Nat} {T : Nat → Prop} {w : World} (hS : SS T0 I w0 bm gm bs bf bl B1 fv lv ms mc lf T w) (k : Nat) (h1 : w0.heap.size ≤ k) (h2 : k < B1) : ¬ T k := fun h => by
  rcases hS.old k h with h3 | h3
  · omega
  · omega
theorem SS.on {L : Nat → List Nat} {S : List Nat} {N F : Nat} {rs cs : Array Value} {T0 : Nat → Prop} {I : List Nat → (Nat → Prop) → World → Prop} {w0 : World} {bm gm bs bf bl B1 : Nat} {fv lv : Value} {ms mc lf : List Nat} {T : Nat → Prop} {w w' : World} (hS : SS T0 I w0 bm gm bs bf bl B1 fv lv ms mc lf T w) (hL : LeadsF L S N F rs cs I) (ho : Below w.heap.size w w') : SS T0 I w0 bm gm bs bf bl B1 fv lv ms mc lf T w' :=
  ⟨hS.m.on ho, hS.set.on ho, hS.s.on ho, hS.f.on ho, hS.l.on ho, own_only hS.own (p := fun _ => False) (fun _ _ h => h) (.of_below ho), Nat.le_trans hS.sz ho.size, only_mix hS.only (Only.of_below (p := fun _ => False) ho) (fun _ h => h.elim), hL.on _ _ _ _ (fun _ => False) hS.st (fun _ h => h.elim) (.of_below ho), hS.old, hS.no⟩
theorem SS.call {T0 : Nat → Prop} {I : List Nat → (Nat → Prop) → World → Prop} {w0 : World} {bm gm bs bf bl B1 : Nat} {fv lv : Value} {ms mc mc' lf : List Nat} {T T' : Nat → Prop} {w w' : World} (hS : SS T0 I w0 bm gm bs bf bl B1 fv lv ms mc lf T w) (hB : SB w0 bm gm bs bf bl B1) (hI : I mc' T' w') (hT : ∀ k, T' k → T k ∨ w.heap.size ≤ k) (ho : Only T w w') : SS T0 I w0 bm gm bs bf bl B1 fv lv ms mc' lf T' w' := by
  refine ⟨row_only hS.m (hS.box _ hB.m0 hB.m1) ho, hS.set.only (hS.box _ hB.g0 hB.g1) ho, row_only hS.s (hS.box _ hB.s0 hB.s1) ho, row_only hS.f (hS.box _ hB.f0 hB.f1) ho, row_only hS.l (hS.box _ hB.l0 hB.l1) ho, own_only hS.own hS.no ho, Nat.le_trans hS.sz ho.size, only_mix hS.only ho (fun k hk => ?_), hI, fun k hk => ?_, fun k hk hk2 => ?_⟩
  · have := hB.m0
    have := hB.m1
    rcases hS.old k hk with h | h
    · exact .inl h.1
    · exact .inr (by omega)
  · have := hS.sz
    rcases hT k hk with h | h
    · exact hS.old k h
    · exact .inr (by omega)
  · rcases hT k hk2 with h | h
    · exact hS.no k hk h
    · have := (hS.own.lt k hk).2
      omega
set_option maxRecDepth 100000 in
set_option maxHeartbeats 4000000 in
theorem search_f {L : Nat → List Nat} {S : List Nat} {N F : Nat} {rs cs : Array Value} {T0 : Nat → Prop} {I : List Nat → (Nat → Prop) → World → Prop} (w0 : World) (bm gm bs bf bl B1 : Nat) (hL : LeadsF L S N F rs cs I) (hG : ∀ p, p < N → ∀ q ∈ L p, q < N) (hN : N ≤ 1000000) (hB : SB w0 bm gm bs bf bl B1) :
    ∀ (n : Nat) (qs ms lf : List Nat) (v lv : Value) (T : Nat → Prop) (w : World), N ≤ ms.length + n → ms.Nodup → (∀ m ∈ ms, m < N) → (∀ q ∈ qs, q < N) → qs.length ≤ 1000000 → (∀ p ∈ lf, p ∈ ms) → lf.Nodup → (∀ m ∈ ms, Av L [] S m) → (∀ q ∈ qs, Fr L S ms q) →
      SS T0 I w0 bm gm bs bf bl B1 (.func (.func F) rs cs) lv ms ms lf T w → Rd w v (natI qs) → (∀ k, v.ownBlock = some k → ¬ sT gm bl lv T k) →
      Calls Tryz.prog 104 #[v, .pointer (some ⟨bm, 0, none⟩), .pointer (some ⟨bs, 0, none⟩), .pointer (some ⟨bf, 0, none⟩), .pointer (some ⟨bl, 0, none⟩)] w (SPost L T0 I w0 bm gm bs bf bl B1 (.func (.func F) rs cs) qs ms lf lv T w) := by
  intro n
  induction n using Nat.strongRecOn with
  | ind n ih =>
    intro qs ms lf v lv T w hn hnd hlt hq hql hsub hlnd hav hfr hS hr hv
    obtain ⟨a, c, rfl, ha⟩ := hr
    rw [natI_len] at ha ⊢
    have HA := hid ha
    have HL := hid hL
    have HG := hid hG
    have HB := hid hB
    have HNd := hid hnd
    have HLt := hid hlt
    have HQ := hid hq
    have HSub := hid hsub
    have HAv := hid hav
    have HFr := hid hfr
    have HLn := hid hlnd
    have HS := hid hS
    have HV := hid hv
    have IH := hid ih
    clear ha hL hG hB hnd hlt hq hsub hlnd hav hfr hS hv ih
    go_enter Tryz.func104, Tryz.ntmps104
    go_wp2_with fail
    go_loopw [10] (fun y wr => ∃ (k : Nat) (ms' lf' : List Nat) (lv' : Value) (T' : Nat → Prop), y = .int .i64 k ∧ k ≤ qs.length ∧ SRel L T0 I w0 bm gm bs bf bl B1 (.func (.func F) rs cs) qs ms lf lv T w k ms' lf' lv' T' wr) (fun y _ => qs.length - (intOf y).toNat)
    case atStart => exact ⟨0, ms, lf, lv, T, rfl, by omega, ⟨.nil _ _, HS.out, fun k h => .inl h, fun k h => .inl h, Only.refl _ _⟩⟩
    case round =>
      obtain ⟨k, ms1, lf1, lv1, T1, rfl, hk, hrel⟩ := hrel
      have HR := hid hrel
      have hsz := hrel.only.size
      clear hrel
      by_cases hlt : k < qs.length
      case neg =>
        obtain rfl : k = qs.length := by omega
        go_wp2_with fail
        go_end0
        exact ⟨ms1, lf1, lv1, T1, rfl, by have h := HR.out.dfs; rwa [List.take_length] at h, HR.out.st, HR.out.at_, HR.out.tat, HR.out.only⟩
      rcases HA.out with h | ⟨g, o, rfl, hg, hc⟩
      · have := congrArg List.length h; rw [natI_len] at this; simp only [List.length_nil] at this; omega
      have q1 : wr.cell? ⟨g, o + k, none⟩ = some (.int .i64 (qs.getD k 0 : Nat)) := by
        have h1 := hc k hlt
        rw [natI_get _ _ hlt] at h1
        have h2 := HR.out.only.block g hg (HV.out g rfl)
        unfold World.cell? at h1 ⊢
        rw [h2]
        exact h1
      have HT := hid (take_snoc qs k hlt)
      have hqk : qs.getD k 0 ∈ qs := by simp [hlt]
      obtain ⟨q, hqq⟩ : ∃ q, qs.getD k 0 = q := ⟨_, rfl⟩
      rw [hqq] at q1 HT hqk
      have hqN := HQ.out q hqk
      have HQm := hid hqk
      have y0 := HR.out.st.m.cell 0
      simp at y0
      clear hc hqq hqk
      by_cases hin : q ∈ ms1
      · have hlk := set_yes HR.out.st.set hin
        have HIn := hid hin
        clear hin
        go_wp2_with fail
        go_roundw
        case rel => exact ⟨k + 1, ms1, lf1, lv1, T1, by go_num, by omega, ⟨by rw [HT.out]; exact HR.out.dfs.append (Dfs.one_skip q HIn.out), HR.out.st, HR.out.at_, HR.out.tat, HR.out.only⟩⟩
        case measure => simp [intOf]; omega
      · have hlk := set_no HR.out.st.set hin
        have hput := run_setPut HR.out.st.set hin
        have HIn := hid hin
        clear hin
        go_upto_region 5 with fail
        clear hput hlk y0
        have hm4 := setSet_at (w := wr) (b := gm) HR.out.st.set.lt (ms1 ++ [q])
        have ho4 := setSet_only wr gm (ms1 ++ [q])
        generalize setSet wr gm (ms1 ++ [q]) = w4 at hm4 ho4 ⊢
        have HS4 := hid (show SS T0 I w0 bm gm bs bf bl B1 (.func (.func F) rs cs) lv1 (ms1 ++ [q]) ms1 lf1 T1 w4 from
          ⟨row_only HR.out.st.m HB.out.mg ho4, hm4, row_only HR.out.st.s (fun h => HB.out.gs h.symm) ho4, row_only HR.out.st.f (fun h => HB.out.gf h.symm) ho4, row_only HR.out.st.l (fun h => HB.out.gl h.symm) ho4,
            own_only HR.out.st.own (fun g' hg' h => by have := (HR.out.st.own.lt g' hg').1; have := HB.out.g1; omega) ho4, Nat.le_trans HR.out.st.sz ho4.size, only_mix HR.out.st.only ho4 (fun k hk => .inr (by have := HB.out.g0; omega)),
            HL.out.on _ _ _ _ (fun k => k = gm) HR.out.st.st (fun k hk => by rw [hk]; exact HR.out.st.box _ HB.out.g0 HB.out.g1) ho4, HR.out.st.old, HR.out.st.no⟩)
        have HO4 := hid (SRel.mix HR.out.only HR.out.at_ HR.out.tat (ho4.mono (fun k hk => .inl hk)))
        have hz4 := ho4.size
        clear hm4 ho4
        have s0 := HS4.out.s.cell 0
        have f0 := HS4.out.f.cell 0
        simp at s0 f0
        have hen := HL.out.enter
        have HAv1 := hid (show ∀ m ∈ ms1, Av L [] S m from fun m hm => by
          rcases HR.out.dfs.sound m hm with h | h
          · exact HAv.out m h
          · exact Av.of (fun x hx _ => (HFr.out x (List.mem_of_mem_take hx)).av HAv.out) (fun x hx => by cases hx) h)
        have HFr1 := hid (show Fr L S ms1 q from (HFr.out q HQm.out).mono HR.out.dfs.sub)
        have hlen1 := HR.out.dfs.len
        have hnd1 := HR.out.dfs.nodup HNd.out
        have hlt1 := HR.out.dfs.lt HG.out (fun x hx => HQ.out x (List.mem_of_mem_take hx)) HLt.out
        have hnd2 := snoc_nodup hnd1 HIn.out
        have hlt2 := snoc_lt hlt1 hqN
        have hle2 := nodup_le N _ hnd2 hlt2
        rw [List.length_append, List.length_singleton] at hle2
        have HN2 := hid hnd2
        have HL2 := hid hlt2
        have HLf := hid (show (∀ p ∈ lf1, p ∈ ms1) ∧ lf1.Nodup from by
          obtain ⟨new, h1, h2, h3, h4, _⟩ := HR.out.dfs.left
          subst h1
          refine ⟨fun p hp => ?_, ?_⟩
          · rcases List.mem_append.1 hp with h5 | h5
            · exact (h2 p).2 (.inl (HSub.out p h5))
            · exact (h2 p).2 (.inr h5)
          · rw [List.nodup_append]
            exact ⟨HLn.out, h3, fun x hx y hy e => h4 y hy (HSub.out y (e ▸ hx))⟩)
        have hn1 : n - 1 < n := by omega
        have hn2 : N ≤ (ms1 ++ [q]).length + (n - 1) := by rw [List.length_append, List.length_singleton]; omega
        have HLe := hid (show ∀ (T5 : Nat → Prop) (k : Nat), w4.heap.size ≤ k → ¬ T5 k → ¬ sT gm bl lv1 T5 k from by
          intro T5 k hk hn h
          have := HS4.out.set.lt
          have := HS4.out.l.lt
          rcases h with h | h | h | h
          · omega
          · omega
          · have := HS4.out.own.lt k h
            omega
          · exact hn h)
        clear hlen1 hnd1 hlt1 hnd2 hlt2
        have htest := HL.out.call ms1 T1 q w4.drew (HS4.out.on HL.out ((Below.refl w4.heap.size w4).drew)).st hqN HIn.out (HFr1.out.av HAv1.out) HFr1.out
        have HTest := hid htest
        clear htest
        go_region_with (first
          | (go_at_call 104; refine (IH.out (n - 1) hn1 (L q) (ms1 ++ [q]) lf1 _ lv1 T5 _ hn2 HN2.out HL2.out (HG.out q hqN) (HL.out.len q hqN) (fun p hp => by have := HLf.out.1 p hp; simp [this]) HLf.out.2 (snoc_mem HAv1.out (HFr1.out.av HAv1.out)) (fun x hx => .inr ⟨q, by simp, hx⟩) HS5.out HR5.out (fun k hk => HLe.out T5 k (HV5.out k hk).1 (HV5.out k hk).2)).mono ?_; rintro e w6 ⟨ms2, lf2, lv2, T6, rfl, hd6, hS6, hat6, ht6, ho6⟩; have HD6 := hid hd6; have HS6 := hid hS6; have HA6 := hid hat6; have HT6 := hid ht6; have HO6 := hid ho6; clear hd6 hS6 hat6 ht6 ho6)
          | (refine HTest.out.mono ?_; rintro e w5 ⟨v5, T5, rfl, hr5, hv5, hI5, ht5, ho5⟩; have HR5 := hid hr5; have HV5 := hid (show ∀ k, v5.ownBlock = some k → w4.heap.size ≤ k ∧ ¬ T5 k from hv5); have HT5 := hid (show ∀ k, T5 k → T1 k ∨ w4.heap.size ≤ k from ht5); have HO5 := hid (show Only T1 w4 w5 from (Only.of_below ((Below.refl w4.heap.size w4).drew)).trans ho5); have HS5 := hid (HS4.out.call HB.out hI5 HT5.out HO5.out); have s5 := HS5.out.s.cell 0; simp at s5; clear hr5 hv5 hI5 ht5 ho5))
        all_goals
          clear s0 f0 s5 hen
          have hxl : lf2.length ≤ N ∧ lf2.Nodup ∧ ∀ p ∈ lf2, p ∈ ms2 := by
            obtain ⟨new, h1, h2, h3, h4, _⟩ := HD6.out.left
            subst h1
            have hsub : ∀ p ∈ lf1 ++ new, p ∈ ms2 := fun p hp => by
              rcases List.mem_append.1 hp with h5 | h5
              · exact (h2 p).2 (.inl (by have := HLf.out.1 p h5; simp [this]))
              · exact (h2 p).2 (.inr h5)
            have hnd : (lf1 ++ new).Nodup := by
              rw [List.nodup_append]
              exact ⟨HLf.out.2, h3, fun x hx y hy e => h4 y hy (by have := HLf.out.1 x hx; simp [← e, this])⟩
            have hlt := HD6.out.lt HG.out (HG.out q hqN) HL2.out
            exact ⟨nodup_le N _ hnd (fun p hp => hlt p (hsub p hp)), hnd, hsub⟩
          have hx1 := hxl.1
          have HXl := hid hxl
          obtain ⟨xs, hxs⟩ : ∃ xs, natI lf2 = xs := ⟨_, rfl⟩
          have HXs := hid hxs
          have hxn : xs.length = lf2.length := by rw [← hxs, natI_len]
          have hown6 := HS6.out.own
          rw [hxs] at hown6
          have HOw := hid hown6
          obtain ⟨s2, c2, rfl⟩ := own_slice hown6
          have l0 := HS6.out.l.cell 0
          have lf0 := HS6.out.l.free
          simp at l0
          have hsz6 := HS6.out.sz
          have hxl3 : xs.length ≤ 1000000 := by omega
          clear hown6 hxs hxl hxn hx1
          go_upto_region 7 with (at_builtin; refine app_ints _ rfl _ _ rfl B1 xs [(q : Int)] _ rfl (HOw.out.alloc _) _ _ _ rfl rfl (SrcAt.at_ _ [(q : Int)] #[.int .i64 q] _ 1 rfl (by simp) rfl) (by simp; omega) (by simp; omega) ?_; intro v7 w7 hg7; have HG7 := hid hg7; have hba := (Below.refl w6.heap.size w6).alloc (Nat.le_refl _) (.cells #[.int .i64 q] 3); have HBa := hid hba; have HL7 := hid (hg7.row (HS6.out.l.on hba) (no_own (HS6.out.l.on hba) (HOw.out.alloc (.cells #[.int .i64 q] 3)) (by decide))); have hown7 := hg7.own; obtain ⟨ys, hys⟩ : ∃ b, xs ++ [(q : Int)] = b := ⟨_, rfl⟩; rw [hys] at hown7; have HYs := hid hys; have HO7 := hid hown7; obtain ⟨s7, c7, rfl⟩ := own_slice hown7; have l7 := HL7.out.free; have l8 := HL7.out.cell 0; simp at l8; clear hg7 hba hown7 hys)
          clear l0 lf0 l7 l8
          have HL8 := hid (HL7.out.set 0 (.slice s7 ys.length c7))
          have ho78 : Only (fun k => k = bl) w7 (w7.setCell ⟨bl, 0, none⟩ (.slice s7 ys.length c7)) := (Only.refl (fun k => k = bl) w7).setCell (g := bl) rfl 0 _
          have o68 : Only (fun k => k = bl ∨ (Value.slice s2 xs.length c2).ownBlock = some k) w6 (w7.setCell ⟨bl, 0, none⟩ (.slice s7 ys.length c7)) :=
            ((Only.of_below HBa.out).trans ((grows_only HG7.out).mono (fun k hk => .inr hk))).trans (ho78.mono (fun k hk => .inl hk))
          have ho8 := own_only (p := fun k => k = bl) HO7.out (fun g' hg' h => by have := (HO7.out.lt g' hg').1; have := HB.out.l1; omega) ho78
          have HO8 := hid ho8
          have HOn := hid o68
          generalize w7.setCell ⟨bl, 0, none⟩ (.slice s7 ys.length c7) = w8 at HL8 HO8 HOn ⊢
          clear ho78 o68 ho8
          go_wp2_with fail
          go_roundw
          case rel =>
            have hown : ∀ k, (Value.slice s2 xs.length c2).ownBlock = some k → B1 ≤ k ∧ k < w6.heap.size := fun k hk => HOw.out.lt k hk
            have hno : ∀ b, b ≠ bl → b < B1 → ¬ (b = bl ∨ (Value.slice s2 xs.length c2).ownBlock = some b) := fun b hb hlt h => by
              rcases h with h | h
              · exact hb h
              · have := (hown b h).1; omega
            have hy : natI (lf2 ++ [q]) = ys := by rw [natI_app, HXs.out, ← HYs.out]; rfl
            have hzz := HG7.out.at_
            refine ⟨k + 1, ms2, lf2 ++ [q], .slice s7 ys.length c7, T6, by go_num, by omega, ⟨by rw [HT.out]; exact HR.out.dfs.append (Dfs.one HIn.out HD6.out), ⟨row_only HS6.out.m (hno _ HB.out.ml HB.out.m1) HOn.out, HS6.out.set.only (hno _ HB.out.gl HB.out.g1) HOn.out, row_only HS6.out.s (hno _ HB.out.sl HB.out.s1) HOn.out, row_only HS6.out.f (hno _ HB.out.fl HB.out.f1) HOn.out, HL8.out, by rw [hy]; exact HO8.out, Nat.le_trans HS6.out.sz HOn.out.size, ?_, ?_, HS6.out.old, ?_⟩, ?_, ?_, ?_⟩⟩
            · refine only_mix HS6.out.only HOn.out (fun j hj => .inr ?_)
              rcases hj with h | h
              · rw [h]; exact HB.out.l0
              · have := (hown j h).1; have := HB.out.m0; have := HB.out.m1; omega
            · refine HL.out.on _ _ _ _ _ HS6.out.st (fun j hj => ?_) HOn.out
              rcases hj with h | h
              · rw [h]; exact HS6.out.box _ HB.out.l0 HB.out.l1
              · exact HS6.out.no j h
            · intro j hj ht
              rcases HG7.out.at_ with h | ⟨g', h, h2⟩
              · exact HS6.out.no j (h.symm.trans hj) ht
              · rw [h] at hj
                cases hj
                simp only [World.size_alloc] at h2
                have := HL.out.lt _ _ _ HS6.out.st _ ht
                omega
            · intro j hj
              have h1 : (Value.slice s2 xs.length c2).ownBlock = some j ∨ w6.heap.size ≤ j := by
                rcases HG7.out.at_ with h | ⟨g', h, h2⟩
                · exact .inl (h.symm.trans hj)
                · rw [h] at hj
                  cases hj
                  simp only [World.size_alloc] at h2
                  exact .inr (by omega)
              have hs5 := HO5.out.size
              have hs6 := HO6.out.size
              rcases h1 with h1 | h1
              · rcases HA6.out j h1 with h2 | h2
                · exact HR.out.at_ j h2
                · exact .inr (by omega)
              · exact .inr (by omega)
            · intro j hj
              have hs5 := HO5.out.size
              rcases HT6.out j hj with h | h
              · rcases HT5.out j h with h2 | h2
                · exact HR.out.tat j h2
                · exact .inr (by omega)
              · exact .inr (by omega)
            · have hs5 := HO5.out.size
              have h5 : Only (sT gm bl lv T) w w5 := SRel.mix HO4.out HR.out.at_ HR.out.tat (HO5.out.mono (fun k hk => .inr (.inr (.inr hk))))
              have h6 := SRel.mix (lv' := lv1) (T' := T5) h5 HR.out.at_ (fun j hj => by
                rcases HT5.out j hj with h2 | h2
                · exact HR.out.tat j h2
                · exact .inr (by omega)) HO6.out
              refine only_mix h6 HOn.out (fun j hj => ?_)
              rcases hj with h | h
              · exact .inl (.inr (.inl h))
              · rcases HA6.out j h with h2 | h2
                · rcases HR.out.at_ j h2 with h3 | h3
                  · exact .inl (.inr (.inr (.inl h3)))
                  · exact .inr h3
                · exact .inr (by omega)
          case measure => simp [intOf]; omega
/-- What comes of a search from some places on. -/
def RfPost (L : Nat → List Nat) (S : List Nat) (T0 : Nat → Prop) (I : List Nat → (Nat → Prop) → World → Prop) (w : World) (e : Ending) (w' : World) : Prop :=
  ∃ (ms lf : List Nat) (v : Value) (T : Nat → Prop), e = .returned v ∧ Dfs L S [] [] ms lf ∧ w'.ownsRow w.heap.size 3 1 v (natI lf).length (ints (natI lf)) ∧ I ms T w' ∧ Only T0 w w'
set_option maxRecDepth 100000 in
set_option maxHeartbeats 4000000 in
theorem reached_f {L : Nat → List Nat} {N F : Nat} {rs cs : Array Value} {T0 : Nat → Prop} {I : List Nat → (Nat → Prop) → World → Prop} (qs : List Nat) (v : Value) (w : World) (hL : LeadsF L qs N F rs cs I) (hG : ∀ p, p < N → ∀ q ∈ L p, q < N) (hN : N ≤ 1000000) (hq : ∀ q ∈ qs, q < N) (hql : qs.length ≤ 1000000)
    (hr : Rd w v (natI qs)) (hv : ∀ k, v.ownBlock = some k → k < w.heap.size ∧ ¬ T0 k) (hI : I [] T0 w) :
    Calls Tryz.prog 63 #[v, .func (.func F) rs cs] w (RfPost L qs T0 I w) := by
  have HL := hid hL
  have HG := hid hG
  have HQ := hid hq
  have HR := hid hr
  have HV := hid hv
  have HI := hid hI
  have hmm := @run_makeMap Tryz.prog
  clear hL hG hq hr hv hI
  go_enter Tryz.func63, Tryz.ntmps63
  go_upto_region 4 with fail
  clear hmm
  obtain ⟨H, hH⟩ : ∃ H, w.heap.size = H := ⟨_, rfl⟩
  have hb1 := (Below.refl w.heap.size w).alloc (Nat.le_refl _) (.cells #[.func (.func F) rs cs] 63)
  have hf1 := Row.new w 63 #[.func (.func F) rs cs]
  obtain ⟨w1, hw1⟩ : ∃ w1, w.alloc (.cells #[.func (.func F) rs cs] 63) = w1 := ⟨_, rfl⟩
  have hz1 : w1.heap.size = H + 1 := by rw [← hw1, ← hH]; simp
  rw [hw1] at hb1 hf1 ⊢
  have hb2 := hb1.alloc (by omega) (.cells #[.slice none 0 0] 22)
  have hf2 := hf1.alloc (.cells #[.slice none 0 0] 22)
  have hl2 := Row.new w1 22 #[.slice none 0 0]
  obtain ⟨w2, hw2⟩ : ∃ w2, w1.alloc (.cells #[.slice none 0 0] 22) = w2 := ⟨_, rfl⟩
  have hz2 : w2.heap.size = H + 2 := by rw [← hw2]; simp [hz1]
  rw [hw2] at hb2 hf2 hl2 ⊢
  have hb3 := hb2.alloc (by omega) (.map #[] 0)
  have hf3 := hf2.alloc (.map #[] 0)
  have hl3 := hl2.alloc (.map #[] 0)
  have hm3 := setAt_new w2
  obtain ⟨w3, hw3⟩ : ∃ w3, w2.alloc (.map #[] 0) = w3 := ⟨_, rfl⟩
  have hz3 : w3.heap.size = H + 3 := by rw [← hw3]; simp [hz2]
  rw [hw3] at hb3 hf3 hl3 hm3 ⊢
  rw [hz2] at hm3
  rw [hz1] at hl3
  rw [hH] at hf3 ⊢
  obtain ⟨mo, hmo⟩ : ∃ mo, Obj.cells #[Value.map (some (H + 1 + 1))] 121 = mo := ⟨_, rfl⟩
  have hb4 := hb3.alloc (by omega) mo
  have hf4 := hf3.alloc mo
  have hl4 := hl3.alloc mo
  have hm4 := hm3.alloc mo
  have hp4 := Row.new w3 121 #[Value.map (some (H + 1 + 1))]
  rw [hmo] at hp4 ⊢
  obtain ⟨w4, hw4⟩ : ∃ w4, w3.alloc mo = w4 := ⟨_, rfl⟩
  have hz4 : w4.heap.size = H + 4 := by rw [← hw4]; simp [hz3]
  rw [hw4] at hb4 hf4 hl4 hm4 hp4 ⊢
  rw [hz3] at hp4
  have hb5 := hb4.alloc (by omega) (.cells #[.nilFunc] 120)
  have hf5 := hf4.alloc (.cells #[.nilFunc] 120)
  have hl5 := hl4.alloc (.cells #[.nilFunc] 120)
  have hm5 := hm4.alloc (.cells #[.nilFunc] 120)
  have hp5 := hp4.alloc (.cells #[.nilFunc] 120)
  have hs5 := Row.new w4 120 #[.nilFunc]
  obtain ⟨w5, hw5⟩ : ∃ w5, w4.alloc (.cells #[.nilFunc] 120) = w5 := ⟨_, rfl⟩
  have hz5 : w5.heap.size = H + 5 := by rw [← hw5]; simp [hz4]
  rw [hw5] at hb5 hf5 hl5 hm5 hp5 hs5 ⊢
  rw [hz4] at hs5
  rw [show H + 1 + 1 + 1 + 1 = H + 4 from rfl, show H + 1 + 1 + 1 = H + 3 from rfl, show H + 1 + 1 = H + 2 from rfl]
  rw [show H + 1 + 1 = H + 2 from rfl] at hmo
  subst hmo
  have HV5 := hid (show SetAt w5 (H + 2) [] from hm5)
  have HF5 := hid hf5
  have HL5 := hid hl5
  have HP5 := hid hp5
  have HS5 := hid hs5
  have HB5 := hid hb5
  have HH := hid hH
  have s0 := hs5.cell 0
  have sf := hs5.free
  simp at s0
  clear hw1 hw2 hw3 hw4 hw5 hb1 hb2 hb3 hb4 hb5 hf1 hf2 hf3 hf4 hf5 hl2 hl3 hl4 hl5 hm3 hm4 hm5 hp4 hp5 hs5 hz1 hz2 hz3 hz4 hH
  go_upto_region 5 with fail
  clear s0 sf
  have ho6 : Only (fun k => k = H + 4) w5 (w5.setCell ⟨H + 4, 0, none⟩ (.func (.func 104) #[] #[.pointer (some ⟨H + 3, 0, none⟩), .pointer (some ⟨H + 4, 0, none⟩), .pointer (some ⟨H, 0, none⟩), .pointer (some ⟨H + 1, 0, none⟩)])) := (Only.refl (fun k => k = H + 4) w5).setCell (g := H + 4) rfl 0 _
  have hs6 := HS5.out.set 0 (.func (.func 104) #[] #[.pointer (some ⟨H + 3, 0, none⟩), .pointer (some ⟨H + 4, 0, none⟩), .pointer (some ⟨H, 0, none⟩), .pointer (some ⟨H + 1, 0, none⟩)])
  generalize w5.setCell ⟨H + 4, 0, none⟩ (.func (.func 104) #[] #[.pointer (some ⟨H + 3, 0, none⟩), .pointer (some ⟨H + 4, 0, none⟩), .pointer (some ⟨H, 0, none⟩), .pointer (some ⟨H + 1, 0, none⟩)]) = w6 at ho6 hs6 ⊢
  have hHe := HH.out
  have hB : SB w (H + 3) (H + 2) (H + 4) H (H + 1) (H + 5) := by constructor <;> omega
  have hz6 := ho6.size
  have hb6 := HB5.out.trans (ho6.below (B := w.heap.size) HB5.out.size (fun k hk => by omega))
  have HB6 := hid hb6
  have hS : SS T0 I w (H + 3) (H + 2) (H + 4) H (H + 1) (H + 5) (.func (.func F) rs cs) (.slice none 0 0) [] [] [] T0 w6 :=
    ⟨row_only HP5.out (by omega) ho6, HV5.out.only (by omega) ho6, hs6, row_only HF5.out (by omega) ho6, row_only HL5.out (by omega) ho6, World.ownsRow_nil _ _ _ _, by omega, .of_below hb6, HL.out.on _ _ _ _ (fun k => w.heap.size ≤ k) HI.out (fun k hk ht => by have := HL.out.lt _ _ _ HI.out k ht; omega) ⟨hb6.os, hb6.tape, hb6.output, hb6.size, fun k hk _ => hb6.block k hk⟩, fun k hk => .inl ⟨hk, HL.out.lt _ _ _ HI.out k hk⟩, fun k hk => by cases hk⟩
  have hSB := hid hS
  have hBB := hid hB
  have c6 := hs6.cell 0
  simp at c6
  clear ho6 hs6 hS hB hHe hb6
  go_wp2_with fail
  refine (search_f w (H + 3) (H + 2) (H + 4) H (H + 1) (H + 5) HL.out HG.out hN hBB.out N qs [] [] v (.slice none 0 0) T0 w6 (by simp) List.nodup_nil (by simp) HQ.out hql (by simp) List.nodup_nil (by simp) (fun q hq => .inl hq) hSB.out (Rd.on HR.out HB6.out) (fun k hk h => ?_)).mono ?_
  · have h1 := (HV.out k hk).1
    have h2 := HH.out
    rcases h with h | h | h | h
    · omega
    · omega
    · cases h
    · exact (HV.out k hk).2 h
  rintro e w7 ⟨ms', lf', lv', T', rfl, hd, hS7, hat, _, ho⟩
  have HS7 := hid hS7
  have HD := hid hd
  have l0 := hS7.l.cell 0
  simp at l0
  have hown := hS7.own
  have HO := hid (own_mono (base' := w.heap.size) hown (by have := HH.out; omega))
  obtain ⟨sl, cl, rfl⟩ := own_slice hown
  clear hd hS7 hat ho hown
  go_wp2_with fail
  go_ret
  exact ⟨ms', lf', _, T', rfl, HD.out, HO.out, HS7.out.st, HS7.out.only⟩
/-- Numbers that are not below 0, as they are. -/
def toL (G : Nat → List Int) (p : Nat) : List Nat := (G p).map Int.toNat
theorem natI_toN {l : List Int} (h : ∀ q ∈ l, 0 ≤ q) : natI (l.map Int.toNat) = l := by
  unfold natI
  rw [List.map_map]
  conv => rhs; rw [← List.map_id l]
  exact List.map_congr_left (fun q hq => by have := h q hq; simp only [Function.comp, id]; omega)
theorem rc_av {G : Nat → List Int} {S : List Int} {N D : Nat} (hG : GBd G S N D) (p : Nat) : Rc G S p ↔ Av (toL G) [] (S.map Int.toNat) p := by
  constructor
  · intro h
    induction h with
    | start p h => exact .start p (List.mem_map.2 ⟨_, h, by simp⟩) (by simp)
    | step p q _ hq ih => exact .step p q ih (List.mem_map.2 ⟨_, hq, by simp⟩) (by simp)
  · intro h
    induction h with
    | start p h _ =>
      obtain ⟨q, hq, rfl⟩ := List.mem_map.1 h
      exact .start _ (by have := (hG.st q hq).1; rwa [show ((q.toNat : Nat) : Int) = q by omega])
    | step p q _ hq _ ih =>
      obtain ⟨x, hx, rfl⟩ := List.mem_map.1 hq
      exact .step p _ ih (by have := (hG.bd p (ih.le hG) x hx).1; rwa [show ((x.toNat : Nat) : Int) = x by omega])
theorem dfs_rc {G : Nat → List Int} {S : List Int} {N D : Nat} (hG : GBd G S N D) {ms lf : List Nat} (h : Dfs (toL G) (S.map Int.toNat) [] [] ms lf) (p : Nat) : p ∈ ms ↔ Rc G S p := by
  rw [rc_av hG, h.set]
  simp
theorem dfs_left {L : Nat → List Nat} {S ms lf : List Nat} (h : Dfs L S [] [] ms lf) : (∀ p, p ∈ lf ↔ p ∈ ms) ∧ lf.Nodup := by
  obtain ⟨new, h1, h2, h3, _, _⟩ := h.left
  rw [List.nil_append] at h1
  subst h1
  exact ⟨fun p => by rw [h2]; simp, h3⟩
theorem gbd_lt {G : Nat → List Int} {S : List Int} {N D : Nat} (hG : GBd G S N D) : (∀ p, p < N + 1 → ∀ q ∈ toL G p, q < N + 1) ∧ ∀ q ∈ S.map Int.toNat, q < N + 1 :=
  ⟨fun p hp q hq => by obtain ⟨x, hx, rfl⟩ := List.mem_map.1 hq; have := hG.bd p (by omega) x hx; omega, fun q hq => by obtain ⟨x, hx, rfl⟩ := List.mem_map.1 hq; have := hG.st x hx; omega⟩
end Go.Proofs.YtihhpgklpichgaaGreat.Wk
