/- CallsItself of the program and of the model; its exact law: the walk. -/
import Derived.Test.YtiokmebmimgdjaaGreatBr
import Derived.Test.YtiokmebmimgdjaaGreatL3a
import Derived.Test.YtiokmebmimgdjaaGreatSwCap
set_option linter.unusedSimpArgs false
set_option linter.unusedVariables false
namespace Go.Proofs.YtiokmebmimgdjaaGreat.Wk
open Go.RowKit Pl Ft Mm In C2 Im Sw

/-- What a function calls itself. -/
noncomputable def Gc (code : List Int) (p : Nat) : List Int := calledL code (reachL code [(p : Int)] false)
theorem gc_bd {code : List Int} {p : Nat} {q : Int} (h : q ∈ Gc code p) : 0 ≤ q ∧ q < code.length := by
  obtain ⟨k, hk, rfl⟩ := List.mem_map.1 h
  have := List.mem_range.1 (List.mem_filter.1 hk).1
  omega
theorem gc_len (code : List Int) (p : Nat) : (Gc code p).length ≤ code.length := calledL_len _ _
theorem truesL_nodup (f : Nat → Bool) (n : Nat) : (truesL f n).Nodup := List.Pairwise.map _ (fun a b hab h => hab (by omega)) ((List.nodup_range (n := n)).filter _)
theorem called_rc {code S : List Int} {p q : Nat} (hp : Rc (Gm code true) S p) (h : (q : Int) ∈ Gc code p) : Rc (Gm code true) S q := by
  obtain ⟨k, hk, e⟩ := List.mem_map.1 h
  have h2 := of_decide_eq_true (List.mem_filter.1 hk).2
  rw [e] at h2
  obtain ⟨y, hy, hc⟩ := List.mem_filterMap.1 h2
  obtain ⟨r, rfl, _, hrc, _⟩ := reachL_mem hy
  unfold callAt at hc
  rw [Int.toNat_natCast] at hc
  refine .step r q (rc_sub hp hrc) ?_
  unfold Gm
  cases hr : readP code r with
  | none => rw [hr] at hc; cases hc
  | some i =>
    rw [hr] at hc
    simp only at hc ⊢
    split at hc
    · rename_i hcc
      have := Option.some.inj hc
      rw [if_pos (by first | exact ⟨rfl, hcc.1⟩ | exact ⟨trivial, hcc.1⟩ | exact hcc.1), List.mem_append]
      exact .inr (by simp [this])
    · cases hc
theorem gc_rc {code S : List Int} {p q : Nat} (hp : Rc (Gm code true) S p) (h : Rc (Gc code) (Gc code p) q) : Rc (Gm code true) S q := by
  induction h with
  | start r hr => exact called_rc hp hr
  | step a b _ hb ih => exact called_rc ih hb
/-- reachedFuns on its way: the first i functions of the list are asked. -/
structure CiRel (code S : List Int) (i : Nat) (L : List Int) : Prop where
  nd : L.Nodup
  bd : ∀ q ∈ L, 0 ≤ q ∧ q < code.length
  ra : ∀ p : Nat, (p : Int) ∈ L → Rc (Gc code) S p
  st : ∀ q ∈ S, q ∈ L
  cl : ∀ j, (h : j < L.length) → j < i → ∀ q ∈ Gc code L[j].toNat, q ∈ L
  le : i ≤ L.length
theorem CiRel.len {code S L : List Int} {i : Nat} (h : CiRel code S i L) : L.length ≤ code.length := by
  have hn : (L.map Int.toNat).Nodup := by
    refine List.pairwise_map.2 (List.Pairwise.imp_of_mem (fun {a b} ha hb hab => ?_) h.nd)
    have := h.bd a ha
    have := h.bd b hb
    omega
  have := rc_nodup_le code.length (L.map Int.toNat) hn (fun x hx => by
    obtain ⟨q, hq, rfl⟩ := List.mem_map.1 hx
    have := h.bd q hq
    omega)
  simpa using this
theorem CiRel.done {code S L : List Int} (h : CiRel code S L.length L) (p : Nat) : (p : Int) ∈ L ↔ Rc (Gc code) S p := by
  constructor
  · exact h.ra p
  · intro hr
    induction hr with
    | start q hq => exact h.st _ hq
    | step a b _ hb ih =>
      obtain ⟨j, hj, e⟩ := List.mem_iff_getElem.1 ih
      exact h.cl j hj hj _ (by rw [e, Int.toNat_natCast]; exact hb)
/-- The function at place i is being asked: the first k of what it calls are in the list. -/
structure CjRel (code S : List Int) (i : Nat) (p : Nat) (k : Nat) (L : List Int) : Prop where
  base : CiRel code S i L
  lt : i < L.length
  at_ : ∀ h : i < L.length, L[i] = (p : Int)
  in_ : ∀ q ∈ (Gc code p).take k, q ∈ L
theorem CjRel.next {code S L : List Int} {i p : Nat} (h : CjRel code S i p (Gc code p).length L) : CiRel code S (i + 1) L :=
  ⟨h.base.nd, h.base.bd, h.base.ra, h.base.st, fun j hj hji q hq => by
    rcases Nat.lt_or_ge j i with h1 | h1
    · exact h.base.cl j hj h1 q hq
    · obtain rfl : j = i := by omega
      rw [h.at_ hj, Int.toNat_natCast] at hq
      exact h.in_ q (by rw [List.take_length]; exact hq), h.lt⟩
theorem CjRel.skip {code S L : List Int} {i p k : Nat} (h : CjRel code S i p k L) (hk : k < (Gc code p).length) (hin : (Gc code p)[k] ∈ L) : CjRel code S i p (k + 1) L :=
  ⟨h.base, h.lt, h.at_, fun q hq => by
    rw [List.take_succ_eq_append_getElem hk] at hq
    rcases List.mem_append.1 hq with h1 | h1
    · exact h.in_ q h1
    · obtain rfl := List.mem_singleton.1 h1
      exact hin⟩
theorem CjRel.add {code S L : List Int} {i p k : Nat} (h : CjRel code S i p k L) (hk : k < (Gc code p).length) (hin : (Gc code p)[k] ∉ L) : CjRel code S i p (k + 1) (L ++ [(Gc code p)[k]]) := by
  have hm : (Gc code p)[k] ∈ Gc code p := List.getElem_mem hk
  have hb := gc_bd hm
  have hpr : Rc (Gc code) S p := h.base.ra p (by rw [← h.at_ h.lt]; exact List.getElem_mem _)
  refine ⟨⟨?_, ?_, ?_, fun q hq => List.mem_append_left _ (h.base.st q hq), ?_, by have := h.base.le; simp; omega⟩, by have := h.lt; simp; omega, fun h2 => ?_, ?_⟩
  · rw [List.nodup_append]
    exact ⟨h.base.nd, by simp, fun a ha b hb e => hin (by
      have := List.mem_singleton.1 hb
      rw [← this, ← e]
      exact ha)⟩
  · intro q hq
    rcases List.mem_append.1 hq with h1 | h1
    · exact h.base.bd q h1
    · rw [List.mem_singleton.1 h1]; exact hb
  · intro q hq
    rcases List.mem_append.1 hq with h1 | h1
    · exact h.base.ra q h1
    · exact .step p q hpr (by rw [List.mem_singleton.1 h1]; exact hm)
  · intro j hj hji q hq
    have hjl : j < L.length := by have := h.lt; omega
    rw [List.getElem_append_left hjl] at hq
    exact List.mem_append_left _ (h.base.cl j hjl hji q hq)
  · rw [List.getElem_append_left h.lt]
    exact h.at_ h.lt
  · intro q hq
    rw [List.take_succ_eq_append_getElem hk] at hq
    rcases List.mem_append.1 hq with h1 | h1
    · exact List.mem_append_left _ (h.in_ q h1)
    · exact List.mem_append_right _ h1
def RchPost (code S : List Int) (w : World) (e : Ending) (w' : World) : Prop :=
  ∃ (v : Value) (L : List Int), e = .returned v ∧ w'.ownsRow w.heap.size 3 1 v L.length (ints L) ∧ L.length ≤ code.length ∧ (∀ p : Nat, (p : Int) ∈ L ↔ Rc (Gc code) S p) ∧ Below w.heap.size w w'
set_option maxRecDepth 100000 in
set_option maxHeartbeats 8000000 in
theorem sReached_c (code S : List Int) (ac sa : Option Addr) (cc sc : Nat) (w : World) (hr : Rd w (.slice ac code.length cc) code) (hs : Rd w (.slice sa S.length sc) S) (hb : code.all isByte = true) (hlen : code.length ≤ 2000) (hpos : 0 < code.length)
    (hnd : S.Nodup) (hbd : ∀ q ∈ S, 0 ≤ q ∧ q < code.length) (hSl : S.length ≤ 2000) :
    Calls Tryz.prog 49 #[.slice ac code.length cc, .slice sa S.length sc] w (RchPost code S w) := by
  have HRd := hid hr
  have HRs := hid hs
  have HBy := hid hb
  have HSt := hid (show CiRel code S 0 S from ⟨hnd, hbd, fun p hp => .start p hp, fun q hq => hq, fun j _ hj => by omega, by omega⟩)
  clear hr hs hb hnd hbd
  go_enter Tryz.func49, Tryz.ntmps49
  go_wp2_with fail
  refine (copyInts_c S sa sc w HRs.out (by omega)).mono ?_
  rintro e w1 ⟨v1, rfl, hown1, hb1⟩
  have HO1 := hid hown1
  have HB1 := hid hb1
  obtain ⟨s1, c1, rfl⟩ := own_slice hown1
  clear hown1 hb1
  go_wp2_with fail
  go_loopw [5, 6] (fun v c wr => ∃ (i : Nat) (L : List Int), c = .int .i64 i ∧ CiRel code S i L ∧ wr.ownsRow w.heap.size 3 1 v L.length (ints L) ∧ Below w.heap.size w wr) (fun _ c _ => code.length + 1 - (intOf c).toNat)
  case atStart => exact ⟨0, S, rfl, HSt.out, HO1.out, HB1.out⟩
  case round =>
    obtain ⟨i, L, rfl, hrel, hown, hbel⟩ := hrel
    have HR := hid hrel
    have HO := hid hown
    have HBe := hid hbel
    have hll := hrel.len
    have hle := hrel.le
    have hz := hbel.size
    by_cases hlt : i < L.length
    case neg =>
      obtain rfl : i = L.length := by omega
      obtain ⟨sv, cv, rfl⟩ := own_slice hown
      clear hrel hown hbel
      go_wp2_with fail
      go_ret
      exact ⟨_, L, rfl, HO.out, hll, HR.out.done, HBe.out⟩
    obtain ⟨g, cap, rfl, hg, hgl⟩ := own_addr HO.out (by omega)
    have hbi := hrel.bd L[i] (List.getElem_mem hlt)
    obtain ⟨p, hp⟩ := Int.eq_ofNat_of_zero_le hbi.1
    have hpl : p < code.length := by omega
    have hcell : wr.cell? ⟨g, i, none⟩ = some (.int .i64 p) := by
      have h := HO.out.cells (g := g) rfl i (.int .i64 p) (by rw [ints, List.getElem?_map, List.getElem?_eq_getElem hlt, Option.map_some, hp])
      rwa [addr_add] at h
    have HP := hid hp
    clear hrel hown hbel hbi hp
    go_wp2_with fail
    refine (sCalledIn_c code ac cc p wr (HRd.out.on HBe.out) HBy.out hlen hpos (by omega) (by omega)).mono ?_
    rintro e w2 ⟨v2, rfl, hown2, hb2⟩
    have hgl2 := gc_len code p
    obtain ⟨gl, hgc⟩ : ∃ l, Gc code p = l := ⟨_, rfl⟩
    have hown2 := (show w2.ownsRow wr.heap.size 3 1 v2 gl.length (ints gl) from by rw [← hgc]; exact hown2)
    rw [hgc] at hgl2
    have HGc := hid hgc
    have HG2 := hid (own_mono hown2 hz)
    have HO2 := hid (own_on HO.out hb2)
    have HB2 := hid (HBe.out.trans (hb2.mono hz))
    have HC0 := hid (show CjRel code S i p 0 L from ⟨HR.out, hlt, fun _ => HP.out, fun q hq => by rw [List.take_zero] at hq; cases hq⟩)
    obtain ⟨s2, c2, rfl⟩ := own_slice hown2
    have HFar := hid (show ∀ k, (Value.slice s2 gl.length c2).ownBlock = some k → k ≠ g from fun k hk h => by have := (hown2.lt k hk).1; omega)
    clear hown2 hb2 hcell hgc
    go_wp2_with fail
    go_loopw [5, 8] (fun v c wx => ∃ (k : Nat) (L2 : List Int), c = .int .i64 k ∧ k ≤ gl.length ∧ CjRel code S i p k L2 ∧ wx.ownsRow w.heap.size 3 1 v L2.length (ints L2) ∧ wx.ownsRow w.heap.size 3 1 (.slice s2 gl.length c2) gl.length (ints gl) ∧ (∀ k, (Value.slice s2 gl.length c2).ownBlock = some k → v.ownBlock ≠ some k) ∧ Below w.heap.size w wx) (fun _ c _ => gl.length - (intOf c).toNat)
    case atStart => exact ⟨0, L, rfl, by omega, HC0.out, HO2.out, HG2.out, fun k hk h => HFar.out k hk (by have h2 : g = k := (by simpa [Value.ownBlock] using h); exact h2.symm), HB2.out⟩
    case round =>
      obtain ⟨k, L2, rfl, hk, hrel, hown, hgow, hfar, hbel⟩ := hrel
      have HR2 := hid hrel
      have HO3 := hid hown
      have HG3 := hid hgow
      have HF3 := hid hfar
      have HBe3 := hid hbel
      have hll2 := hrel.base.len
      have hz3 := hbel.size
      obtain ⟨sv, cv, rfl⟩ := own_slice hown
      clear hrel hown hgow hfar hbel
      by_cases hkl : k < gl.length
      case neg =>
        obtain rfl : k = gl.length := by omega
        go_wp2_with fail
        go_roundw
        case rel => exact ⟨i + 1, L2, by go_num, CjRel.next (by rw [HGc.out]; exact HR2.out), HO3.out, HBe3.out⟩
        case measure => simp [intOf]; omega
      obtain ⟨gg, gcap, hsl, hgg, hggl⟩ := own_addr HG3.out (by omega)
      simp only [Value.slice.injEq, true_and] at hsl
      obtain ⟨rfl, rfl⟩ := hsl
      obtain ⟨y, hy⟩ : ∃ y, gl[k] = y := ⟨_, rfl⟩
      have hcell : wr.cell? ⟨gg, k, none⟩ = some (.int .i64 y) := by
        have h := HG3.out.cells (g := gg) rfl k (.int .i64 y) (by rw [ints, List.getElem?_map, List.getElem?_eq_getElem hkl, Option.map_some, hy])
        rwa [addr_add] at h
      have HY := hid hy
      clear hy
      go_wp2_with fail
      refine (inList_c L2 _ y _ (.of_own HO3.out) (by omega)).mono ?_
      rintro e w4 ⟨rfl, rfl⟩
      by_cases hin : y ∈ L2
      · rw [decide_eq_true hin]
        have HIn := hid hin
        clear hin
        go_wp2_with fail
        go_roundw
        case rel => exact ⟨k + 1, L2, by go_num, by omega, HR2.out.skip (by rw [HGc.out]; exact hkl) (by simp only [HGc.out, HY.out]; exact HIn.out), HO3.out, HG3.out, HF3.out, HBe3.out⟩
        case measure => simp [intOf]; omega
      · rw [decide_eq_false hin]
        have HIn := hid hin
        clear hin
        go_wp2_with (at_builtin; refine app_ints _ rfl _ _ rfl w.heap.size L2 [y] _ rfl (HO3.out.alloc _) _ _ _ rfl rfl (SrcAt.at_ _ [y] #[.int .i64 y] _ 1 rfl (by simp) rfl) (by simp; omega) (by simp; omega) ?_)
        intro v5 w5 hg5
        have HO5 := hid hg5.own
        have hba := (Below.refl w4.heap.size w4).alloc (Nat.le_refl _) (.cells #[.int .i64 y] 3)
        have HB5 := hid ((HBe3.out.trans (hba.mono hz3)).trans hg5.bel)
        have HG5 := hid (own_only (own_on HG3.out hba) (fun q hq h => HF3.out q hq h) (grows_only hg5))
        have HF5 := hid (show ∀ q, (Value.slice (some ⟨gg, 0, none⟩) gl.length c2).ownBlock = some q → v5.ownBlock ≠ some q from fun q hq h => by
          rcases hg5.at_ with h1 | ⟨g', h1, h2⟩
          · rw [h1] at h; exact HF3.out q hq h
          · rw [h1] at h
            obtain rfl : g' = q := Option.some.inj h
            have := (HG3.out.lt g' hq).2
            simp only [World.size_alloc] at h2
            omega)
        obtain ⟨s5, c5, rfl⟩ := own_slice hg5.own
        clear hg5 hba
        go_wp2_with fail
        go_roundw
        case rel => exact ⟨k + 1, L2 ++ [y], by go_num, by omega, by have h := HR2.out.add (by rw [HGc.out]; exact hkl) (by simp only [HGc.out, HY.out]; exact HIn.out); simp only [HGc.out, HY.out] at h; exact h, HO5.out, HG5.out, HF5.out, HB5.out⟩
        case measure => simp [intOf]; omega
end Go.Proofs.YtiokmebmimgdjaaGreat.Wk
namespace Go.Proofs.YtiokmebmimgdjaaGreat.Wk
open Go.RowKit Pl Ft Mm In C2 Im Sw

noncomputable def callsP (m : Img) (x : Int) : Bool := isFunP m x && pdec (Rc (Gc m.code) (Gc m.code x.toNat) x.toNat)
theorem gc_gbd (code : List Int) (p : Nat) (hl : code.length ≤ 2000) : GBd (Gc code) (Gc code p) 2000 2000 where
  st q hq := by have := gc_bd hq; omega
  bd r _ q hq := by have := gc_bd hq; omega
  len r _ := by have := gc_len code r; omega
theorem set_look {w : World} {b : Nat} {ms : List Nat} (h : SetAt w b ms) (p : Nat) : (Instr.lookup 69 (.map (some b)) (.int .i64 p) false).run Tryz.prog w = .ok (.bool (decide (p ∈ ms))) w := by
  by_cases hp : p ∈ ms
  · rw [decide_eq_true hp]; exact set_yes h hp
  · rw [decide_eq_false hp]; exact set_no h hp
theorem calls_leads (code : List Int) (ac : Option Addr) (cc : Nat) (lb : Value) (gw gm B : Nat) (ms0 : List Nat) (S : List Int) (w0 : World) (hr : Rd w0 (.slice ac code.length cc) code) (hcap : code.length ≤ cc) (hby : code.all isByte = true) (hlen : code.length ≤ 2000) (hgw : gw < B) (hgm : gm < B) (hB : w0.heap.size ≤ B)
    (hms : ∀ p, Rc (Gc code) S p → ∀ q, Rc (Gm code false) [(p : Int)] q → (q ∈ ms0 ↔ (readP code q).isSome = true)) (hms1 : ∀ p ∈ ms0, (readP code p).isSome = true) :
    Leads (Gc code) S 2000 47 (fun p => #[.pointer (some ⟨gw, 0, none⟩), .int .i64 p]) B (fun _ => False) (fun _ w => Row w gw 84 #[.slice ac code.length cc, .map (some gm), lb] ∧ MapAt w gm code ms0 ∧ Below w0.heap.size w0 w) where
  call ms p w hI hBw hp _ hrc := by
    refine (wcalledIn_c code ac cc lb gw gm p ms0 w (hr.on hI.2.2) hcap hby hlen hp hI.1 hI.2.1 (hms p hrc) hms1).mono ?_
    rintro e w' ⟨v, rfl, ho, hb⟩
    exact ⟨v, rfl, ho, ⟨hI.1.on hb, hI.2.1.on hb, hI.2.2.trans (hb.mono hI.2.2.size)⟩, .of_below hb⟩
  enter xs w := by kernel_rfl
  on ms w w' hI hb := ⟨hI.1.below hb hgw, (hb.block gm hgm).trans hI.2.1, hI.2.2.trans (hb.mono hB)⟩
  far k hk := hk.elim
set_option maxRecDepth 100000 in
set_option maxHeartbeats 4000000 in
theorem callsItself_c (m : Img) (vc vd vn : Value) (x : Int) (w : World) (h : ICells w vc vd vn m) (hs : Sm m) (hcc : ∀ a n c, vc = .slice a n c → n ≤ c) :
    Calls Tryz.prog 27 #[imgVal vc vd vn m, .int .i64 x] w fun e w' => e = .returned (.bool (callsP m x)) ∧ Below w.heap.size w w' := by
  obtain ⟨ac, cc, rfl⟩ := rd_slice h.c
  obtain ⟨ad, cd, rfl⟩ := rd_slice h.d
  obtain ⟨an, cn, rfl⟩ := nrd_slice h.n
  have HI := hid h
  have HS := hid hs
  have HCap := hid hcc
  clear h hs hcc
  obtain ⟨o, ho⟩ : ∃ o, callsP m x = o := ⟨_, rfl⟩
  have HQ := hid ho
  rw [ho]
  clear ho
  have hV : imgVal (.slice ac m.code.length cc) (.slice ad m.data.length cd) (.slice an m.names.length cn) m = .agg #[.slice ac m.code.length cc, .int .i64 m.entry, .int .i64 m.room, .slice ad m.data.length cd, .slice an m.names.length cn] := rfl
  have HV := hid hV
  rw [hV]
  clear hV
  have HB1 := hid ((Below.refl w.heap.size w).alloc (Nat.le_refl _) (.cells #[.slice ac m.code.length cc, .int .i64 m.entry, .int .i64 m.room, .slice ad m.data.length cd, .slice an m.names.length cn] 30))
  have HX1 := hid (Row.new w 30 #[.slice ac m.code.length cc, .int .i64 m.entry, .int .i64 m.room, .slice ad m.data.length cd, .slice an m.names.length cn])
  have hw01 : w.heap.size < (w.alloc (.cells #[.slice ac m.code.length cc, .int .i64 m.entry, .int .i64 m.room, .slice ad m.data.length cd, .slice an m.names.length cn] 30)).heap.size := by simp
  go_enter Tryz.func27, Tryz.ntmps27
  go_wp2_with fail
  generalize w.alloc (.cells #[.slice ac m.code.length cc, .int .i64 m.entry, .int .i64 m.room, .slice ad m.data.length cd, .slice an m.names.length cn] 30) = w1 at HB1 HX1 hw01 ⊢
  rw [← HV.out]
  cases hf : isFunP m x
  · obtain rfl : o = false := by rw [← HQ.out, callsP, hf]; rfl
    refine (funsWith_no m _ _ _ x w1 (HI.out.on HB1.out) HS.out HCap.out hf).mono ?_
    rintro e w2 ⟨rfl, hb2⟩
    have HB2 := hid (HB1.out.trans (hb2.mono HB1.out.size))
    clear hb2 hf
    go_wp2_with fail
    go_ret
    exact ⟨rfl, HB2.out.alloc HB2.out.size _⟩
  · have h1 : imageOk m = true := by unfold isFunP at hf; exact (Bool.and_eq_true_iff.1 hf).1
    have hx : x ∈ funsL m := by unfold isFunP at hf; exact of_decide_eq_true (Bool.and_eq_true_iff.1 hf).2
    have HBd := hid (imageOk_bd h1)
    have hl2 := HBd.out.c1
    obtain ⟨p, rfl, hpl, hrc⟩ := funs_rc h1 hx
    have HO := hid (show o = pdec (Rc (Gc m.code) (Gc m.code p) p) by rw [← HQ.out, callsP, hf, Int.toNat_natCast]; rfl)
    have HRc := hid hrc
    refine (funsWith_yes m _ _ _ p w1 (HI.out.on HB1.out) HS.out HCap.out h1 hx).mono ?_
    rintro e w2 ⟨gw, gm, ms, vl, rfl, hrow, hmap, hmem, ⟨sl, cl, rfl⟩, hb2⟩
    obtain ⟨fn, hfn⟩ : ∃ k, (funsL m).length = k := ⟨_, rfl⟩
    rw [hfn]
    obtain ⟨w3, hw3, hr3, hb3, hz3⟩ := new_ex w2 61 #[.pointer (some ⟨gw, 0, none⟩), .slice sl fn cl]
    have HB3 := hid (HB1.out.trans ((hb2.trans (hb3.mono hb2.size)).mono HB1.out.size))
    have HRow := hid (hrow.on hb3)
    have HMap := hid (hmap.on hb3)
    have HR3 := hid hr3
    have hcl : m.code.length ≤ cc := HCap.out _ _ _ rfl
    have HIn := hid (show ∀ r, Rc (Gm m.code true) [m.entry] r → ∀ q, Rc (Gm m.code false) [(r : Int)] q → (q ∈ insOf m.code ms ↔ (readP m.code q).isSome = true) from fun r hr q hq => by
      rw [mem_insOf]
      exact ⟨fun h => h.2, fun h => ⟨(gw_gm hmem q).2 (rc_sub hr hq), h⟩⟩)
    clear hf h1 hx hrc hrow hmap hmem hb2 hb3 hr3 hfn
    have y0 := HR3.out.cell 0
    have y1 := HR3.out.cell 1
    simp at y0 y1
    go_upto_region 4 with fail
    clear hw3
    have hgwl := HRow.out.lt
    have hgml := HMap.out.lt
    have hb3z := HB3.out.size
    go_region_with (first
      | (go_at_call 47; refine (wcalledIn_c m.code ac cc _ gw gm p (insOf m.code ms) w3.drew ((HI.out.on HB3.out).c.on ((Below.refl _ _).drew)) hcl HBd.out.cb hl2 (by omega) HRow.out.drew (show MapAt w3.drew gm m.code (insOf m.code ms) from HMap.out) (HIn.out p HRc.out) (fun q hq => (mem_insOf.1 hq).2)).mono ?_; rintro e w4 ⟨v4, rfl, hown4, hb4⟩; obtain ⟨gl, hgc⟩ : ∃ l, Gc m.code p = l := ⟨_, rfl⟩; have hown4 := (show w4.ownsRow w3.drew.heap.size 3 1 v4 gl.length (ints gl) from by rw [← hgc]; exact hown4); have HGc := hid hgc; have HO4 := hid hown4; have HB4 := hid (((Below.refl w3.heap.size w3).drew).trans hb4); have HR4 := hid (HR3.out.on HB4.out); have q0 := HR4.out.cell 0; have q1 := HR4.out.cell 1; simp at q0 q1; obtain ⟨s4, c4, rfl⟩ := own_slice hown4; clear hown4 hb4 hgc)
      | (go_at_call 50; refine (reached_m (show GBd (Gc m.code) gl 2000 2000 from by rw [← HGc.out]; exact gc_gbd m.code p hl2) (by have := gc_len m.code p; rw [HGc.out] at this; omega) (by have := gc_len m.code p; rw [HGc.out] at this; omega) (by omega) w3.drew.heap.size _ w4 (calls_leads m.code ac cc _ gw gm w4.heap.size (insOf m.code ms) gl w ((HI.out.c)) hcl HBd.out.cb hl2 (by have := HB4.out.size; omega) (by have := HB4.out.size; omega) (by have := HB4.out.size; omega) (fun r hr => HIn.out r (by rw [← HGc.out] at hr; exact gc_rc HRc.out hr)) (fun q hq => (mem_insOf.1 hq).2)) HO4.out ⟨HRow.out.on HB4.out, HMap.out.on HB4.out, HB3.out.trans (HB4.out.mono hb3z)⟩).mono ?_; rintro e w5 ⟨gs, ms2, rfl, hset, hmem2, _, ⟨_, _, hbe5⟩, _, _⟩; have hlk := set_look hset p; have HM2 := hid hmem2; have HB5 := hid hbe5; clear hset hmem2 hbe5))
    all_goals
      go_wp2_with fail
      go_ret
      rw [HO.out, HGc.out, ← decide_pdec (HM2.out p)]
      exact ⟨rfl, HB5.out⟩
end Go.Proofs.YtiokmebmimgdjaaGreat.Wk
namespace Go.Proofs.YtiokmebmimgdjaaGreat.Wk
open Go.RowKit Pl Ft Mm In C2 Im Sw

set_option maxRecDepth 100000 in
set_option maxHeartbeats 4000000 in
theorem specCallsItself_c (m : Img) (vc vd vn : Value) (x : Int) (w : World) (h : ICells w vc vd vn m) (hs : Sm m) :
    Calls Tryz.prog 26 #[imgVal vc vd vn m, .int .i64 x] w fun e w' => e = .returned (.bool (callsP m x)) ∧ Below w.heap.size w w' := by
  obtain ⟨ac, cc, rfl⟩ := rd_slice h.c
  obtain ⟨ad, cd, rfl⟩ := rd_slice h.d
  obtain ⟨an, cn, rfl⟩ := nrd_slice h.n
  have HI := hid h
  have HS := hid hs
  clear h hs
  obtain ⟨o, ho⟩ : ∃ o, callsP m x = o := ⟨_, rfl⟩
  have HQ := hid ho
  rw [ho]
  clear ho
  have hV : imgVal (.slice ac m.code.length cc) (.slice ad m.data.length cd) (.slice an m.names.length cn) m = .agg #[.slice ac m.code.length cc, .int .i64 m.entry, .int .i64 m.room, .slice ad m.data.length cd, .slice an m.names.length cn] := rfl
  have HV := hid hV
  rw [hV]
  clear hV
  obtain ⟨w1, hw1, hr1, hb1, hz1⟩ := new_ex w 30 #[.slice ac m.code.length cc, .int .i64 m.entry, .int .i64 m.room, .slice ad m.data.length cd, .slice an m.names.length cn]
  have HX1 := hid hr1
  have HB1 := hid hb1
  have x0 := hr1.cell 0
  have x1 := hr1.cell 1
  have x2 := hr1.cell 2
  have x3 := hr1.cell 3
  have x4 := hr1.cell 4
  simp at x0 x1 x2 x3 x4
  clear hr1 hb1
  go_enter Tryz.func26, Tryz.ntmps26
  go_upto_region 1 with fail
  clear hw1
  cases hf : isFunP m x
  · obtain rfl : o = false := by rw [← HQ.out, callsP, hf]; rfl
    have HF := hid hf
    clear hf
    refine wp_region_any (by kernel_rfl) ?_
    refine wpAny_take (i := 1) (v := _) rfl (by kernel_rfl) (by kernel_rfl) (by kernel_rfl) (fun _ _ _ h => h) (Or.inl ⟨by rfl, fun w => by go_simp; first | done | with_reducible rfl⟩) ?_
    refine wpAny_ready (rs := [0]) (by kernel_rfl) (by simp) ?_
    refine AllReady.cons rfl (fun K hK => ?_) AllReady.nil
    go_simp
    refine hK _ _ ?_
    clear hK K
    refine wpAny_ready (rs := [2]) (by kernel_rfl) (by simp) ?_
    refine AllReady.cons rfl (fun K hK => ?_) AllReady.nil
    go_simp
    go_at_call 43
    rw [← HV.out]
    refine (isFun_c m _ _ _ x w1.drew (HI.out.on (HB1.out.drew)) HS.out).mono ?_
    rintro e w2 ⟨rfl, hb2⟩
    rw [HF.out]
    have HB2 := hid (HB1.out.drew.trans (hb2.mono HB1.out.drew.size))
    clear hb2
    simp only
    refine hK _ _ ?_
    clear hK K
    refine wpAny_take (i := 3) (v := _) rfl (by kernel_rfl) (by kernel_rfl) (by kernel_rfl) (fun _ _ _ h => h) (Or.inl ⟨by rfl, fun w => by go_simp; first | done | with_reducible rfl⟩) ?_
    refine wpAny_take (i := 4) (v := undef) rfl (by kernel_rfl) (by kernel_rfl) (by kernel_rfl) (fun _ _ _ h => h) (Or.inr ⟨by rfl, rfl⟩) ?_
    refine wpAny_take (i := 5) (v := undef) rfl (by kernel_rfl) (by kernel_rfl) (by kernel_rfl) (fun _ _ _ h => h) (Or.inr ⟨by rfl, rfl⟩) ?_
    refine wpAny_take (i := 6) (v := undef) rfl (by kernel_rfl) (by kernel_rfl) (by kernel_rfl) (fun _ _ _ h => h) (Or.inr ⟨by rfl, rfl⟩) ?_
    refine wpAny_take (i := 7) (v := undef) rfl (by kernel_rfl) (by kernel_rfl) (by kernel_rfl) (fun _ _ _ h => h) (Or.inr ⟨by rfl, rfl⟩) ?_
    refine wpAny_take (i := 8) (v := undef) rfl (by kernel_rfl) (by kernel_rfl) (by kernel_rfl) (fun _ _ _ h => h) (Or.inr ⟨by rfl, rfl⟩) ?_
    refine wpAny_take (i := 11) (v := undef) rfl (by kernel_rfl) (by kernel_rfl) (by kernel_rfl) (fun _ _ _ h => h) (Or.inr ⟨by rfl, rfl⟩) ?_
    refine wpAny_ready (rs := [9]) (by kernel_rfl) (by simp) ?_
    refine AllReady.cons rfl (fun K hK => ?_) AllReady.nil
    go_simp
    refine hK _ _ ?_
    clear hK K
    refine wpAny_ready (rs := [10]) (by kernel_rfl) (by simp) ?_
    refine AllReady.cons rfl (fun K hK => ?_) AllReady.nil
    go_simp
    refine hK _ _ ?_
    clear hK K
    refine wpAny_ready (rs := [12]) (by kernel_rfl) (by simp) ?_
    refine AllReady.cons rfl (fun K hK => ?_) AllReady.nil
    go_simp
    refine hK _ _ ?_
    clear hK K
    refine wpAny_take (i := 13) (v := _) rfl (by kernel_rfl) (by kernel_rfl) (by kernel_rfl) (fun _ _ _ h => h) (Or.inl ⟨by rfl, fun w => by go_simp; first | done | with_reducible rfl⟩) ?_
    refine wpAny_take (i := 14) (v := _) rfl (by kernel_rfl) (by kernel_rfl) (by kernel_rfl) (fun _ _ _ h => h) (Or.inl ⟨by rfl, fun w => by go_simp; first | done | with_reducible rfl⟩) ?_
    refine wpAny_done (by kernel_rfl) ?_ _
    go_wp2_with fail
    go_ret
    exact ⟨rfl, HB2.out⟩
  · have h1 : imageOk m = true := by unfold isFunP at hf; exact (Bool.and_eq_true_iff.1 hf).1
    have hx : x ∈ funsL m := by unfold isFunP at hf; exact of_decide_eq_true (Bool.and_eq_true_iff.1 hf).2
    have HBd := hid (imageOk_bd h1)
    have hl2 := HBd.out.c1
    obtain ⟨p, rfl, hpl, _⟩ := funs_rc h1 hx
    have HO := hid (show o = pdec (Rc (Gc m.code) (Gc m.code p) p) by rw [← HQ.out, callsP, hf, Int.toNat_natCast]; rfl)
    have HF := hid hf
    clear hf h1 hx
    go_region_with (first
      | (go_at_call 43; rw [← HV.out]; refine (isFun_c m _ _ _ p w1.drew (HI.out.on (HB1.out.drew)) HS.out).mono ?_; rintro e w2 ⟨rfl, hb2⟩; rw [HF.out]; have HB2 := hid (HB1.out.drew.trans (hb2.mono HB1.out.drew.size)); have HX2 := hid (HX1.out.drew.on hb2); have a0 := HX2.out.cell 0; simp at a0; clear hb2)
      | (go_at_call 46; refine (sCalledIn_c m.code ac cc p w2 (HI.out.on HB2.out).c HBd.out.cb hl2 (by omega) (by omega) (by omega)).mono ?_; rintro e w3 ⟨v3, rfl, hown3, hb3⟩; obtain ⟨gl, hgc⟩ : ∃ l, Gc m.code p = l := ⟨_, rfl⟩; have hown3 := (show w3.ownsRow w2.heap.size 3 1 v3 gl.length (ints gl) from by rw [← hgc]; exact hown3); have HGc := hid hgc; have HO3 := hid hown3; have HB3 := hid (HB2.out.trans (hb3.mono HB2.out.size)); have HX3 := hid (HX2.out.on hb3); have b0 := HX3.out.cell 0; simp at b0; obtain ⟨s3, c3, rfl⟩ := own_slice hown3; clear hown3 hb3 hgc)
      | (go_at_call 49; refine (sReached_c m.code gl ac _ cc _ w3 (HI.out.on HB3.out).c (.of_own HO3.out) HBd.out.cb hl2 (by omega) (by rw [← HGc.out]; exact truesL_nodup _ _) (fun q hq => by rw [← HGc.out] at hq; exact gc_bd hq) (by have := gc_len m.code p; rw [HGc.out] at this; omega)).mono ?_; rintro e w4 ⟨v4, L, rfl, hown4, hll, hmem, hb4⟩; have HO4 := hid hown4; have HM4 := hid hmem; have HB4 := hid (HB3.out.trans (hb4.mono HB3.out.size)); obtain ⟨s4, c4, rfl⟩ := own_slice hown4; clear hown4 hb4 hmem)
      | (go_at_call 48; refine (inList_c L _ p w4 (.of_own HO4.out) (by omega)).mono ?_; rintro e w5 ⟨rfl, rfl⟩))
    all_goals
      go_wp2_with fail
      go_ret
      rw [HO.out, HGc.out, ← decide_pdec (HM4.out p)]
      exact ⟨rfl, HB4.out⟩
end Go.Proofs.YtiokmebmimgdjaaGreat.Wk
namespace Go.Proofs.YtiokmebmimgdjaaGreat.Wk
open Go.RowKit Pl Ft Mm In C2 Im Sw

set_option maxRecDepth 100000 in
set_option maxHeartbeats 2000000 in
theorem exactCallsItself_w (m : Img) (vc vd vn : Value) (x : Int) (w : World) (hc : Rd w vc m.code) (hd : Rd w vd m.data) (hn : NRd w vn m.names) (hw : Wide m) :
    Calls Tryz.prog 8 #[imgVal vc vd vn m, .int .i64 x] w fun e w' => e = .returned (.bool true) ∧ Below w.heap.size w w' := by
  have HC := hid hc
  have HD := hid hd
  have HN := hid hn
  have HW := hid hw
  clear hc hd hn hw
  have hV : imgVal vc vd vn m = .agg #[vc, .int .i64 m.entry, .int .i64 m.room, vd, vn] := rfl
  rw [hV]
  clear hV
  have HX0 := hid (Row.new w 25 #[vc, .int .i64 m.entry, .int .i64 m.room, vd, vn])
  have HB0 := hid ((Below.refl w.heap.size w).alloc (Nat.le_refl _) (.cells #[vc, .int .i64 m.entry, .int .i64 m.room, vd, vn] 25))
  go_enter Tryz.func8, Tryz.ntmps8
  go_wp2_with fail
  refine (szImage_c m vc vd vn _ _ (HC.out.on HB0.out) (HD.out.on HB0.out) (HN.out.on HB0.out) HW.out (by omega) (by omega)).mono ?_
  rintro e w1 ⟨y, rfl, hx1, hx0, hxp, hb1⟩
  have HB1 := hid (HB0.out.trans (hb1.mono HB0.out.size))
  have HX1 := hid (HX0.out.on hb1)
  have HP := hid hxp
  have hz1 := hb1.size
  simp only [World.size_alloc] at hz1
  clear hb1 hxp
  by_cases hx : 0 ≤ y
  case neg =>
    go_wp2_with fail
    go_ret
    exact ⟨rfl, HB1.out⟩
  have HS := hid (HP.out hx)
  have x0 := HX1.out.cell 0
  have x1 := HX1.out.cell 1
  have x2 := HX1.out.cell 2
  have x3 := HX1.out.cell 3
  have x4 := HX1.out.cell 4
  simp at x0 x1 x2 x3 x4
  go_wp2_with fail
  refine (toImage_c m vc vd vn _ (HC.out.on HB1.out) (HD.out.on HB1.out) (HN.out.on HB1.out) HS.out).mono ?_
  rintro e w2 ⟨ac, ad, an, rfl, hown2, hb2⟩
  have HO2 := hid hown2
  have HB2 := hid (HB1.out.trans (hb2.mono HB1.out.size))
  have HX2 := hid (HX1.out.on hb2)
  have hz2 := hb2.size
  clear hown2 hb2 x0 x1 x2 x3 x4
  go_wp2_with fail
  refine (specCallsItself_c m ac ad an x _ HO2.out.cells HS.out).mono ?_
  rintro e w3 ⟨rfl, hb3⟩
  have HB3 := hid (HB2.out.trans (hb3.mono HB2.out.size))
  have HX3 := hid (HX2.out.on hb3)
  have hz3 := hb3.size
  clear hb3
  have x0 := HX3.out.cell 0
  have x1 := HX3.out.cell 1
  have x2 := HX3.out.cell 2
  have x3 := HX3.out.cell 3
  have x4 := HX3.out.cell 4
  simp at x0 x1 x2 x3 x4
  go_wp2_with fail
  refine (toImage_c m vc vd vn _ (HC.out.on HB3.out) (HD.out.on HB3.out) (HN.out.on HB3.out) HS.out).mono ?_
  rintro e w4 ⟨bc, bd, bn, rfl, hown4, hb4⟩
  have HO4 := hid hown4
  have HB4 := hid (HB3.out.trans (hb4.mono HB3.out.size))
  have HX4 := hid (HX3.out.on hb4)
  have hz4 := hb4.size
  clear hown4 hb4 x0 x1 x2 x3 x4
  obtain ⟨s1, c1, rfl⟩ := own_slice HO4.out.c
  obtain ⟨s2, c2, rfl⟩ := own_slice HO4.out.d
  obtain ⟨s3, c3, rfl⟩ := own_slice HO4.out.n
  unfold imgVal
  simp only
  go_wp2_with fail
  have HY4 := hid (Row.new w4 30 #[.slice s1 m.code.length c1, .int .i64 m.entry, .int .i64 m.room, .slice s2 m.data.length c2, .slice s3 m.names.length c3])
  have HB5 := hid (HB4.out.alloc HB4.out.size (.cells #[.slice s1 m.code.length c1, .int .i64 m.entry, .int .i64 m.room, .slice s2 m.data.length c2, .slice s3 m.names.length c3] 30))
  have HX5 := hid (HX4.out.alloc (.cells #[.slice s1 m.code.length c1, .int .i64 m.entry, .int .i64 m.room, .slice s2 m.data.length c2, .slice s3 m.names.length c3] 30))
  have HO5 := hid (HO4.out.on ((Below.refl _ _).alloc (Nat.le_refl _) (.cells #[.slice s1 m.code.length c1, .int .i64 m.entry, .int .i64 m.room, .slice s2 m.data.length c2, .slice s3 m.names.length c3] 30)))
  refine (callsItself_c m _ _ _ x _ HO5.out.cells HS.out (own_cap3 HO4.out.c)).mono ?_
  rintro e w6 ⟨rfl, hb6⟩
  have HY6 := hid (HY4.out.on hb6)
  have HX6 := hid (HX5.out.on hb6)
  have HO6 := hid (HO5.out.on hb6)
  have HB6 := hid (HB5.out.trans (hb6.mono HB5.out.size))
  have hz6 := hb6.size
  simp only [World.size_alloc] at hz6
  clear hb6
  have x0 := HX6.out.cell 0
  have x1 := HX6.out.cell 1
  have x2 := HX6.out.cell 2
  have x3 := HX6.out.cell 3
  have x4 := HX6.out.cell 4
  have y0 := HY6.out.cell 0
  have y1 := HY6.out.cell 1
  have y2 := HY6.out.cell 2
  have y3 := HY6.out.cell 3
  have y4 := HY6.out.cell 4
  simp at x0 x1 x2 x3 x4 y0 y1 y2 y3 y4
  have hw4 : w4.heap.size < w6.heap.size := by omega
  have hw0 : w.heap.size < w6.heap.size := by omega
  cases hok : callsP m x
  all_goals
    go_wp2_with fail
    go_region_with (first
      | (go_at_call 11; refine (toImage_c m vc vd vn _ (HC.out.on HB6.out.drew) (HD.out.on HB6.out.drew) (HN.out.on HB6.out.drew) HS.out).mono ?_; rintro e w7 ⟨tc, td, tn, rfl, hown7, hb7⟩; have HO7 := hid hown7; have HB7 := hid hb7; have HY7 := hid (HY6.out.drew.on hb7); have z0 := HY7.out.cell 0; have z1 := HY7.out.cell 1; have z2 := HY7.out.cell 2; have z3 := HY7.out.cell 3; have z4 := HY7.out.cell 4; simp at z0 z1 z2 z3 z4; clear hown7 hb7)
      | (go_at_call 14; refine (eqImage_own m _ _ _ _ _ _ _ (HO6.out.on ((Below.refl _ _).drew.trans HB7.out)) HO7.out HS.out).mono ?_; rintro e w8 ⟨rfl, hb8⟩))
    all_goals
      have HB8 := hid ((HB6.out.drew.trans (HB7.out.mono HB6.out.drew.size)).trans (hb8.mono (HB6.out.drew.trans (HB7.out.mono HB6.out.drew.size)).size))
      clear hb8 x0 x1 x2 x3 x4 y0 y1 y2 y3 y4
      go_wp2_with fail
      go_ret
      exact ⟨rfl, HB8.out⟩
end Go.Proofs.YtiokmebmimgdjaaGreat.Wk
