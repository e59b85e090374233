/- The text of an instruction: its parts, by the program; numbers by the model. -/
import Derived.Test.YtcpkkedhgmnonaaDoorNo2
set_option linter.unusedSimpArgs false
set_option linter.unusedVariables false
namespace Go.Proofs.YtcpkkedhgmnonaaDoor.Tx
open Go.RowKit Pl Ft Mm In C2 Im

def txt (x : Int) : ByteArray := ⟨(Lib.itoa x).toArray⟩
theorem itoa_len {x : Int} (h0 : -1000000 ≤ x) (h1 : x ≤ 1000000) : (txt x).size ≤ 1000002 := by
  have e : (txt x).size = (Lib.itoa x).length := by simp [txt, ByteArray.size]
  rw [e]
  unfold Lib.itoa
  split
  · have := digits_len x.natAbs
    rw [List.length_cons]; omega
  · have := digits_len x.toNat
    omega
set_option maxRecDepth 100000 in
theorem decimalAll_c (x : Int) (w : World) (h0 : -1000000 ≤ x) (h1 : x ≤ 1000000) :
    Calls Tryd.prog 34 #[.int .i64 x] w fun e w' => e = .returned (.string (txt x)) ∧ w' = w := by
  by_cases h : 0 ≤ x
  · obtain ⟨n, rfl⟩ := Int.eq_ofNat_of_zero_le h
    refine (decimal_c n w (by omega)).mono ?_
    rintro e w' ⟨rfl, rfl⟩
    refine ⟨?_, rfl⟩
    unfold txt Lib.itoa
    rw [if_neg (by omega)]
    rfl
  · obtain ⟨n, hn⟩ : ∃ n : Nat, x = -(n : Int) := ⟨x.natAbs, by omega⟩
    have hn0 : 1 ≤ n := by omega
    have e0 : txt x = ⟨#[45]⟩ ++ ⟨(Lib.decDigits n).toArray⟩ := by
      unfold txt Lib.itoa
      rw [if_pos (by omega), show x.natAbs = n by omega]
      exact (bytes_app [45] _).symm
    have hd := digits_len n
    have e1 : (⟨(Lib.decDigits n).toArray⟩ : ByteArray).size = (Lib.decDigits n).length := by simp [ByteArray.size]
    obtain ⟨s, hs⟩ : ∃ s, (⟨(Lib.decDigits n).toArray⟩ : ByteArray) = s := ⟨_, rfl⟩
    rw [hs] at e0 e1
    have HS := hid hs
    have HE := hid e0
    rw [← e1] at hd
    clear hs e0 e1
    subst hn
    go_enter Tryd.func34, Tryd.ntmps34
    go_wp2_with fail
    refine (decimal_c n w (by omega)).mono ?_
    rw [HS.out]
    rintro e w1 ⟨rfl, rfl⟩
    go_wp2_with fail
    go_ret
    exact ⟨by rw [HE.out]; rfl, rfl⟩
theorem bytes_of {p : ByteArray} {l : List UInt8} (h : p.toList = l) : p = ⟨l.toArray⟩ := by
  rw [ByteArray.toList_eq] at h
  apply ByteArray.ext
  rw [← h]
/-- The words of the conditions. -/
def condWords : List ByteArray := [⟨#[101, 113, 117, 97, 108]⟩, ⟨#[111, 116, 104, 101, 114]⟩, ⟨#[108, 101, 115, 115]⟩, ⟨#[109, 111, 115, 116]⟩, ⟨#[108, 111, 119]⟩, ⟨#[104, 105, 103, 104]⟩]
def Conds (w : World) : Prop := 0 < w.heap.size ∧ ∀ k, k < 6 → w.cell? ⟨0, k, none⟩ = some (.string (condWords.getD k ⟨#[]⟩))
theorem Conds.on {w w' : World} (h : Conds w) (hb : Below w.heap.size w w') : Conds w' := ⟨Nat.lt_of_lt_of_le h.1 hb.size, fun k hk => (hb.cell (p := ⟨0, k, none⟩) h.1).trans (h.2 k hk)⟩
/-- What stands for a part. -/
def partOf (p : ByteArray) (i : IIns) : ByteArray :=
  if p.toList = [114, 65] then ⟨#[114]⟩ ++ txt i.a
  else if p.toList = [114, 66] then ⟨#[114]⟩ ++ txt i.b
  else if p.toList = [66] then txt i.b
  else if p.toList = [67] then condWords.getD i.b.toNat ⟨#[]⟩
  else if p.toList = [78] then txt i.n
  else p
set_option maxRecDepth 100000 in
set_option maxHeartbeats 1000000 in
theorem partText_c (p : ByteArray) (i : IIns) (w : World) (ht : Tab w) (hc : Conds w) (ha : -1000000 ≤ i.a ∧ i.a ≤ 1000000) (hb : -1000000 ≤ i.b ∧ i.b ≤ 1000000) (hn : -1000000 ≤ i.n ∧ i.n ≤ 1000000) (hC : p.toList = [67] → 0 ≤ i.b ∧ i.b < 6) :
    Calls Tryd.prog 14 #[.string p, i.val] w fun e w' => e = .returned (.string (partOf p i)) ∧ Below w.heap.size w w' := by
  obtain ⟨op, a, b, n⟩ := i
  simp only at ha hb hn hC
  have HT := hid ht
  have HC := hid hc
  have HCC := hid hC
  clear ht hc hC
  have hV : (IIns.mk op a b n).val = .agg #[.int .i64 op, .int .i64 a, .int .i64 b, .int .i64 n] := rfl
  rw [hV]
  clear hV
  have HX0 := hid (Row.new w 24 #[.int .i64 op, .int .i64 a, .int .i64 b, .int .i64 n])
  have HB0 := hid ((Below.refl w.heap.size w).alloc (Nat.le_refl _) (.cells #[.int .i64 op, .int .i64 a, .int .i64 b, .int .i64 n] 24))
  have hla := itoa_len ha.1 ha.2
  have hlb := itoa_len hb.1 hb.2
  have hln := itoa_len hn.1 hn.2
  by_cases h1 : p.toList = [114, 65]
  · have HR := hid (show partOf p ⟨op, a, b, n⟩ = ⟨#[114]⟩ ++ txt a by unfold partOf; rw [if_pos h1])
    obtain rfl := bytes_of h1
    go_enter Tryd.func14, Tryd.ntmps14
    go_wp2_with fail
    refine (Tryd.strconv_Itoa a (by omega) (by omega) _ (HT.out.on HB0.out)).mono ?_
    rintro e w5 ⟨rfl, kk, os, rfl⟩
    have HB5 := hid (HB0.out.trans (Lib.below_grow w.heap.size (w.alloc (.cells #[.int .i64 op, .int .i64 a, .int .i64 b, .int .i64 n] 24)) HB0.out.size kk os))
    generalize Sort.grow ((w.alloc (.cells #[.int .i64 op, .int .i64 a, .int .i64 b, .int .i64 n] 24)).drewN kk) os = w5 at HB5 ⊢
    obtain ⟨d, hdd⟩ : ∃ d, txt a = d := ⟨_, rfl⟩
    have hd0 : (⟨(Lib.itoa a).toArray⟩ : ByteArray) = d := hdd
    rw [hdd] at HR hla
    rw [hd0]
    clear hdd hd0
    go_wp2_with fail
    go_ret
    exact ⟨by rw [HR.out]; rfl, HB5.out⟩
  by_cases h2 : p.toList = [114, 66]
  · have HR := hid (show partOf p ⟨op, a, b, n⟩ = ⟨#[114]⟩ ++ txt b by unfold partOf; rw [if_neg h1, if_pos h2])
    obtain rfl := bytes_of h2
    go_enter Tryd.func14, Tryd.ntmps14
    go_wp2_with fail
    refine (Tryd.strconv_Itoa b (by omega) (by omega) _ (HT.out.on HB0.out)).mono ?_
    rintro e w5 ⟨rfl, kk, os, rfl⟩
    have HB5 := hid (HB0.out.trans (Lib.below_grow w.heap.size (w.alloc (.cells #[.int .i64 op, .int .i64 a, .int .i64 b, .int .i64 n] 24)) HB0.out.size kk os))
    generalize Sort.grow ((w.alloc (.cells #[.int .i64 op, .int .i64 a, .int .i64 b, .int .i64 n] 24)).drewN kk) os = w5 at HB5 ⊢
    obtain ⟨d, hdd⟩ : ∃ d, txt b = d := ⟨_, rfl⟩
    have hd0 : (⟨(Lib.itoa b).toArray⟩ : ByteArray) = d := hdd
    rw [hdd] at HR hlb
    rw [hd0]
    clear hdd hd0
    go_wp2_with fail
    go_ret
    exact ⟨by rw [HR.out]; rfl, HB5.out⟩
  by_cases h3 : p.toList = [66]
  · have HR := hid (show partOf p ⟨op, a, b, n⟩ = txt b by unfold partOf; rw [if_neg h1, if_neg h2, if_pos h3])
    obtain rfl := bytes_of h3
    go_enter Tryd.func14, Tryd.ntmps14
    go_wp2_with fail
    refine (Tryd.strconv_Itoa b (by omega) (by omega) _ (HT.out.on HB0.out)).mono ?_
    rintro e w5 ⟨rfl, kk, os, rfl⟩
    have HB5 := hid (HB0.out.trans (Lib.below_grow w.heap.size (w.alloc (.cells #[.int .i64 op, .int .i64 a, .int .i64 b, .int .i64 n] 24)) HB0.out.size kk os))
    generalize Sort.grow ((w.alloc (.cells #[.int .i64 op, .int .i64 a, .int .i64 b, .int .i64 n] 24)).drewN kk) os = w5 at HB5 ⊢
    obtain ⟨d, hdd⟩ : ∃ d, txt b = d := ⟨_, rfl⟩
    have hd0 : (⟨(Lib.itoa b).toArray⟩ : ByteArray) = d := hdd
    rw [hdd] at HR hlb
    rw [hd0]
    clear hdd hd0
    go_wp2_with fail
    go_ret
    exact ⟨by rw [HR.out]; rfl, HB5.out⟩
  by_cases h4 : p.toList = [78]
  · have HR := hid (show partOf p ⟨op, a, b, n⟩ = txt n by unfold partOf; rw [if_neg h1, if_neg h2, if_neg h3, if_neg (by rw [h4]; decide), if_pos h4])
    obtain rfl := bytes_of h4
    go_enter Tryd.func14, Tryd.ntmps14
    go_wp2_with fail
    refine (Tryd.strconv_Itoa n (by omega) (by omega) _ (HT.out.on HB0.out)).mono ?_
    rintro e w5 ⟨rfl, kk, os, rfl⟩
    have HB5 := hid (HB0.out.trans (Lib.below_grow w.heap.size (w.alloc (.cells #[.int .i64 op, .int .i64 a, .int .i64 b, .int .i64 n] 24)) HB0.out.size kk os))
    generalize Sort.grow ((w.alloc (.cells #[.int .i64 op, .int .i64 a, .int .i64 b, .int .i64 n] 24)).drewN kk) os = w5 at HB5 ⊢
    obtain ⟨d, hdd⟩ : ∃ d, txt n = d := ⟨_, rfl⟩
    have hd0 : (⟨(Lib.itoa n).toArray⟩ : ByteArray) = d := hdd
    rw [hdd] at HR hln
    rw [hd0]
    clear hdd hd0
    go_wp2_with fail
    go_ret
    exact ⟨by rw [HR.out]; rfl, HB5.out⟩
  by_cases h5 : p.toList = [67]
  · obtain ⟨hb0, hb6⟩ := HCC.out h5
    have HR := hid (show partOf p ⟨op, a, b, n⟩ = condWords.getD b.toNat ⟨#[]⟩ by unfold partOf; rw [if_neg h1, if_neg h2, if_neg h3, if_pos h5])
    obtain rfl := bytes_of h5
    obtain ⟨k, rfl⟩ := Int.eq_ofNat_of_zero_le hb0
    have hk := (HC.out.on HB0.out).2 k (by omega)
    rw [Int.toNat_natCast] at HR
    have hcond := HR.out
    obtain ⟨t, ht⟩ : ∃ t, condWords.getD k ⟨#[]⟩ = t := ⟨_, rfl⟩
    rw [ht] at hk hcond
    have HR2 := hid hcond
    clear ht hcond HR
    go_enter Tryd.func14, Tryd.ntmps14
    go_wp2_with fail
    go_ret
    exact ⟨by rw [HR2.out]; rfl, HB0.out⟩
  · have HR := hid (show partOf p ⟨op, a, b, n⟩ = p by unfold partOf; rw [if_neg h1, if_neg h2, if_neg h3, if_neg h5, if_neg h4])
    have e1 : (p.toList == [114, 65]) = false := by simpa using h1
    have e2 : (p.toList == [114, 66]) = false := by simpa using h2
    have e3 : (p.toList == [66]) = false := by simpa using h3
    have e4 : (p.toList == [78]) = false := by simpa using h4
    have e5 : (p.toList == [67]) = false := by simpa using h5
    go_enter Tryd.func14, Tryd.ntmps14
    go_wp2_with fail
    go_ret
    exact ⟨by rw [HR.out]; rfl, HB0.out⟩
end Go.Proofs.YtcpkkedhgmnonaaDoor.Tx
