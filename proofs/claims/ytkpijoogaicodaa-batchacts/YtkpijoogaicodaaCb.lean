import Derived.Test.YtkpijoogaicodaaProg
import Derived.Test.YtkpijoogaicodaaBack
import Derived.Test.YtkpijoogaicodaaCa
namespace Go.Proofs.Ytkpijoogaicodaa
open Go.RowKit
set_option linter.unusedVariables false
set_option linter.unusedSimpArgs false

/-- The number of bytes, the lowest first. -/
def leV : List Int → Int
  | [] => 0
  | c :: l => c + 256 * leV l
theorem leV_bd : ∀ (l : List Int), (∀ n ∈ l, 0 ≤ n ∧ n < 256) → 0 ≤ leV l ∧ leV l < 256 ^ l.length
  | [], _ => by simp [leV]
  | c :: l, h => by
    have ih := leV_bd l (fun n hn => h n (by simp [hn]))
    have hc := h c (by simp)
    simp only [leV, List.length_cons, Int.pow_succ]
    omega
/-- One byte below what has come. -/
theorem or_byte (n c : Int) (h0 : 0 ≤ n) (h1 : n < 72057594037927936) (c0 : 0 ≤ c) (c1 : c < 256) : bits .or .u64 (IntKind.u64.wrap (n * 256)) (IntKind.u64.wrap c) = c + 256 * n := by
  have e1 : IntKind.u64.wrap (n * 256) = n * 256 := by rw [IntKind.wrap_u64]; omega
  have e2 : IntKind.u64.wrap c = c := by rw [IntKind.wrap_u64]; omega
  rw [e1, e2, bits_join .u64 64 (by decide) wraps_u64 8 _ _ (by omega) (by omega) (by omega) (by omega) (by omega) (by omega)]
  omega
/-- The fold over bytes as they come. -/
def rdL : List Int → Int := List.foldl (fun n x => bits .or .u64 (IntKind.u64.wrap (n * 256)) (IntKind.u64.wrap x)) 0
theorem rdP_rdL (p : List (Int × Int)) : rdP p = rdL (p.map (·.2)) := by
  unfold rdP rdL
  rw [List.foldl_map]
theorem back_rev (zs : List Int) : (cameTo (backAt zs) zs.length).map (·.2) = zs.reverse := by
  apply List.ext_getElem
  · simp [cameTo]
  · intro i h1 h2
    have hi : i < zs.length := by simpa [cameTo] using h1
    have hj : zs.length - 1 - i < zs.length := by omega
    simp [cameTo, backAt, hj]
theorem pow256 (k : Nat) (h : k ≤ 7) : (256 : Int) ^ k ≤ 72057594037927936 := by
  have : k = 0 ∨ k = 1 ∨ k = 2 ∨ k = 3 ∨ k = 4 ∨ k = 5 ∨ k = 6 ∨ k = 7 := by omega
  rcases this with h | h | h | h | h | h | h | h <;> subst h <;> decide
theorem rdL_rev : ∀ (l : List Int), l.length ≤ 8 → (∀ n ∈ l, 0 ≤ n ∧ n < 256) → rdL l.reverse = leV l
  | [], _, _ => rfl
  | c :: l, hl, h => by
    have hb := fun n hn => h n (List.mem_cons_of_mem c hn)
    have ih := rdL_rev l (by simp at hl; omega) hb
    have bd := leV_bd l hb
    have hc := h c (by simp)
    have hp := pow256 l.length (by simp at hl; omega)
    rw [List.reverse_cons]
    unfold rdL
    rw [List.foldl_append]
    show bits .or .u64 (IntKind.u64.wrap (rdL l.reverse * 256)) (IntKind.u64.wrap c) = _
    rw [ih, or_byte _ _ bd.1 (by omega) hc.1 hc.2]
    rfl
theorem rd_le (zs : List Int) (h : zs.length ≤ 8) (hb : ∀ n ∈ zs, 0 ≤ n ∧ n < 256) : rdP (cameTo (backAt zs) zs.length) = leV zs := by
  rw [rdP_rdL, back_rev, rdL_rev zs h hb]
theorem leV_byts : ∀ (s : Nat) (n : Int), 0 ≤ n → n < 256 ^ s → leV (byts s n) = n
  | 0, n, h0, h1 => by simp at h1; simp [byts, leV]; omega
  | s + 1, n, h0, h1 => by
    rw [byts_succ]
    simp only [leV]
    rw [leV_byts s (n / 256) (by omega) (by rw [Int.pow_succ] at h1; omega)]
    omega

def rfV (s : Nat) (l : List Int) : Int := if l.length < s then 0 else leV (l.take s)
def rfE (s : Nat) (l : List Int) : Int := if l.length < s then 4 else 0
theorem take_bd {l : List Int} (h : ∀ n ∈ l, 0 ≤ n ∧ n < 256) (s : Nat) : ∀ n ∈ l.take s, 0 ≤ n ∧ n < 256 := fun n hn => h n (List.mem_of_mem_take hn)
theorem ret_2 {k k' : IntKind} {a b c d : Int} (h : a = b) (h' : c = d) : Ending.returned (.tuple #[.int k a, .int k' c]) = .returned (.tuple #[.int k b, .int k' d]) := by rw [h, h']
/-- readFixed of the first bytes of a slice. -/
theorem readFixed_at (b off cap : Nat) (l : List Int) (s : Nat) (hs : s ≤ 8) (hsl : s ≤ l.length) (hbd : ∀ n ∈ l, 0 ≤ n ∧ n < 256) (w : World) (hb : b < w.heap.size) (hI : ∀ j, (h : j < l.length) → w.cell? ⟨b, off + j, none⟩ = some (.int .u8 l[j])) :
    Calls Try.prog 80 #[.slice (some ⟨b, off, none⟩) s cap] w fun e W' => e = .returned (.int .u64 (leV (l.take s))) ∧ Below w.heap.size w W' := by
  have hl : (l.take s).length = s := by simp; omega
  have h := readFixed_calls b off cap (l.take s) (by omega) w hb (by
    intro j hj
    have hj' : j < l.length := by omega
    rw [hI j hj', List.getElem?_eq_getElem hj]
    simp)
  rw [rd_le _ (by omega) (take_bd hbd s), hl] at h
  exact h
set_option maxRecDepth 100000 in
set_option maxHeartbeats 1000000 in
theorem crf64_any (a : Option Addr) (len cap : Nat) (l : List Int) (w : World) (h : Arg w a len cap l) (hcap : len ≤ cap) :
    Calls Try.prog 71 #[.slice a len cap] w fun e w' => e = .returned (.tuple #[.int .u64 (rfV 8 l), .int .i64 (rfE 8 l)]) ∧ Below w.heap.size w w' := by
  obtain ⟨hl, h2, h3, h4⟩ := h
  by_cases h8 : len < 8
  · have e1 : rfV 8 l = 0 := by unfold rfV; rw [if_pos (by omega)]
    have e2 : rfE 8 l = 4 := by unfold rfE; rw [if_pos (by omega)]
    rw [e1, e2]
    clear e1 e2 hl h2 h4
    have h8' : (len : Int) < 8 := by omega
    go_enter Try.func71, Try.ntmps71
    go_wp2
    go_ret2
    exact ⟨rfl, Below.refl _ _⟩
  · rcases h4 with rfl | ⟨b, off, rfl, hlt, hc⟩
    · simp at hl; omega
    · have e1 : rfV 8 l = leV (l.take 8) := by unfold rfV; rw [if_neg (by omega)]
      have e2 : rfE 8 l = 0 := by unfold rfE; rw [if_neg (by omega)]
      have HC := readFixed_at b off cap l 8 (Nat.le_refl _) (by omega) h2 w hlt hc
      rw [e1, e2]
      have HH : Hid (Calls Try.prog 80 #[.slice (some ⟨b, off, none⟩) 8 cap] w fun e W' => e = .returned (.int .u64 (leV (l.take 8))) ∧ Below w.heap.size w W') := HC
      clear e1 e2 hl h2 hc HC
      have h8' : (8 : Int) ≤ (len : Int) := by omega
      have hcp : (8 : Int) ≤ (cap : Int) := by omega
      go_enter Try.func71, Try.ntmps71
      go_wp2_with (go_at_call 80; refine HH.out.mono ?_; rintro e w2 ⟨rfl, hbel⟩)
      go_ret2
      exact ⟨rfl, hbel⟩
theorem leV4_bd {l : List Int} (h : ∀ n ∈ l, 0 ≤ n ∧ n < 256) (h4 : 4 ≤ l.length) : 0 ≤ leV (l.take 4) ∧ leV (l.take 4) < 4294967296 := by
  have := leV_bd (l.take 4) (take_bd h 4)
  have e : (l.take 4).length = 4 := by simp; omega
  rw [e] at this
  exact ⟨this.1, by have h2 := this.2; simpa using h2⟩
set_option maxRecDepth 100000 in
set_option maxHeartbeats 1000000 in
theorem crf32_any (a : Option Addr) (len cap : Nat) (l : List Int) (w : World) (h : Arg w a len cap l) (hcap : len ≤ cap) :
    Calls Try.prog 74 #[.slice a len cap] w fun e w' => e = .returned (.tuple #[.int .u32 (rfV 4 l), .int .i64 (rfE 4 l)]) ∧ Below w.heap.size w w' := by
  obtain ⟨hl, h2, h3, h4⟩ := h
  by_cases h8 : len < 4
  · have e1 : rfV 4 l = 0 := by unfold rfV; rw [if_pos (by omega)]
    have e2 : rfE 4 l = 4 := by unfold rfE; rw [if_pos (by omega)]
    rw [e1, e2]
    clear e1 e2 hl h2 h4
    have h8' : (len : Int) < 4 := by omega
    go_enter Try.func74, Try.ntmps74
    go_wp2
    go_ret2
    exact ⟨rfl, Below.refl _ _⟩
  · rcases h4 with rfl | ⟨b, off, rfl, hlt, hc⟩
    · simp at hl; omega
    · have e1 : rfV 4 l = leV (l.take 4) := by unfold rfV; rw [if_neg (by omega)]
      have e2 : rfE 4 l = 0 := by unfold rfE; rw [if_neg (by omega)]
      have HC := readFixed_at b off cap l 4 (by decide) (by omega) h2 w hlt hc
      obtain ⟨v0, v1⟩ := leV4_bd h2 (by omega)
      rw [e1, e2]
      generalize leV (l.take 4) = V at *
      have HH : Hid (Calls Try.prog 80 #[.slice (some ⟨b, off, none⟩) 4 cap] w fun e W' => e = .returned (.int .u64 V) ∧ Below w.heap.size w W') := HC
      clear e1 e2 hl h2 hc HC
      have h8' : (4 : Int) ≤ (len : Int) := by omega
      have hcp : (4 : Int) ≤ (cap : Int) := by omega
      go_enter Try.func74, Try.ntmps74
      go_wp2_with (go_at_call 80; refine HH.out.mono ?_; rintro e w2 ⟨rfl, hbel⟩)
      go_ret2
      exact ⟨rfl, hbel⟩
theorem rdL_next (l : List Int) (s k m : Nat) (x : Int) (hs : s ≤ l.length) (hm : s = m + k + 1) (hx : l[m]? = some x) (x0 : 0 ≤ x) (x1 : x < 256) :
    rdL ((l.take s).reverse.take (k + 1)) = bits .or .u64 (IntKind.u64.wrap (rdL ((l.take s).reverse.take k) * 256)) x := by
  have hk : k < (l.take s).reverse.length := by simp; omega
  have e : (l.take s).reverse[k] = x := by
    obtain ⟨h1, h2⟩ := List.getElem?_eq_some_iff.1 hx
    rw [List.getElem_reverse]
    simp only [List.getElem_take, List.length_take]
    rw [← h2]
    congr 1
    omega
  rw [List.take_succ_eq_append_getElem hk, e]
  have e2 : IntKind.u64.wrap x = x := by rw [IntKind.wrap_u64]; omega
  unfold rdL
  rw [List.foldl_append]
  show bits .or .u64 (IntKind.u64.wrap (_ * 256)) (IntKind.u64.wrap x) = _
  rw [e2]
set_option maxRecDepth 100000 in
set_option maxHeartbeats 1000000 in
theorem rrf_any (s : Nat) (hs : s ≤ 8) (a : Option Addr) (len cap : Nat) (l : List Int) (w : World) (h : Arg w a len cap l) :
    Calls Try.prog 42 #[.slice a len cap, .int .i64 s] w fun e w' => e = .returned (.tuple #[.int .u64 (rfV s l), .int .i64 (rfE s l)]) ∧ w' = w := by
  obtain ⟨hl, h2, h3, h4⟩ := h
  by_cases h8 : len < s
  · have e1 : rfV s l = 0 := by unfold rfV; rw [if_pos (by omega)]
    have e2 : rfE s l = 4 := by unfold rfE; rw [if_pos (by omega)]
    rw [e1, e2]
    clear e1 e2 hl h2 h4
    have h8' : (len : Int) < (s : Int) := by omega
    go_enter Try.func42, Try.ntmps42
    go_wp2
    go_ret2
    exact ⟨rfl, rfl⟩
  · have e1 : rfV s l = leV (l.take s) := by unfold rfV; rw [if_neg (by omega)]
    have e2 : rfE s l = 0 := by unfold rfE; rw [if_neg (by omega)]
    rw [e1, e2]
    clear e1 e2
    have hls : s ≤ l.length := by omega
    have HL : Hid (l.length = len) := hl
    have h8' : (s : Int) ≤ (len : Int) := by omega
    clear hl
    go_enter Try.func42, Try.ntmps42
    go_wp2
    go_loop [6, 7] (fun n i => ∃ k : Nat, k ≤ s ∧ i = .int .i64 ((s : Int) - 1 - (k : Int)) ∧ n = .int .u64 (rdL ((l.take s).reverse.take k))) (fun _ i => (intOf i + 1).toNat)
    case atStart => exact ⟨0, Nat.zero_le _, by simp, rfl⟩
    case round =>
      obtain ⟨k, hk, rfl, rfl⟩ := hrel
      by_cases hlt : k < s
      · rcases h4 with rfl | ⟨b, off, rfl, hbl, hc⟩
        · simp at hls; omega
        · obtain ⟨m, hm⟩ : ∃ m : Nat, s = m + k + 1 := ⟨s - 1 - k, by omega⟩
          have e3 : (s : Int) - 1 - (k : Int) = (m : Int) := by omega
          have hml : m < l.length := by omega
          have hm2 : (m : Int) < (len : Int) := by omega
          have hcx := hc m hml
          obtain ⟨x0, x1⟩ := h2 _ (List.getElem_mem hml)
          have hxx : l[m]? = some l[m] := List.getElem?_eq_getElem hml
          generalize l[m] = x at *
          have HN : Hid (rdL ((l.take s).reverse.take (k + 1)) = bits .or .u64 (IntKind.u64.wrap (rdL ((l.take s).reverse.take k) * 256)) x) := rdL_next l s k m x hls hm hxx x0 x1
          have HM : Hid (s = m + k + 1) := hm
          clear hc hm hxx
          go_wp2
          go_round
          case rel => exact ⟨k + 1, by omega, val_i (by have := HM.out; omega), val_i HN.out.symm⟩
          case measure => simp [intOf]; omega
      · obtain rfl : k = s := by omega
        go_wp2
        go_ret2
        exact ⟨ret_2 (by rw [List.take_of_length_le (by rw [List.length_reverse, List.length_take]; omega), rdL_rev _ (by simp; omega) (take_bd h2 _)]) rfl, rfl⟩

/-- One group more. -/
def grp (n c : Int) (i : Nat) : Int := bits .or .u64 n (IntKind.u64.wrap (c % 128 * 2 ^ (7 * i)))
/-- ReadVarint from the i-th byte on. -/
def rvG : List Int → Nat → Int → Int × Int × Int
  | [], _, _ => (0, 0, 4)
  | c :: l, i, n => if i = 9 ∧ 1 < c then (0, 0, 3) else if 0 < i ∧ c = 0 then (0, 0, 3) else if c < 128 then (grp n c i, (i : Int) + 1, 0) else rvG l (i + 1) (grp n c i)
theorem rvG_a {l : List Int} {k : Nat} {n c : Int} (hc : l[k]? = some c) (h : k = 9) (h' : 1 < c) : rvG (l.drop k) k n = (0, 0, 3) := by
  obtain ⟨h1, h2⟩ := List.getElem?_eq_some_iff.1 hc
  rw [List.drop_eq_getElem_cons h1, h2]; unfold rvG; rw [if_pos ⟨h, h'⟩]
theorem rvG_b {l : List Int} {k : Nat} {n c : Int} (hc : l[k]? = some c) (h : ¬ (k = 9 ∧ 1 < c)) (h' : 0 < k) (h2' : c = 0) : rvG (l.drop k) k n = (0, 0, 3) := by
  obtain ⟨h1, h2⟩ := List.getElem?_eq_some_iff.1 hc
  rw [List.drop_eq_getElem_cons h1, h2]; unfold rvG; rw [if_neg h, if_pos ⟨h', h2'⟩]
theorem rvG_c {l : List Int} {k : Nat} {n c : Int} (hc : l[k]? = some c) (h : ¬ (k = 9 ∧ 1 < c)) (h' : ¬ (0 < k ∧ c = 0)) (h3 : c < 128) : rvG (l.drop k) k n = (grp n c k, (k : Int) + 1, 0) := by
  obtain ⟨h1, h2⟩ := List.getElem?_eq_some_iff.1 hc
  rw [List.drop_eq_getElem_cons h1, h2]; unfold rvG; rw [if_neg h, if_neg h', if_pos h3]
theorem rvG_d {l : List Int} {k : Nat} {n c : Int} (hc : l[k]? = some c) (h : ¬ (k = 9 ∧ 1 < c)) (h' : ¬ (0 < k ∧ c = 0)) (h3 : ¬ c < 128) : rvG (l.drop k) k n = rvG (l.drop (k + 1)) (k + 1) (grp n c k) := by
  obtain ⟨h1, h2⟩ := List.getElem?_eq_some_iff.1 hc
  rw [List.drop_eq_getElem_cons h1, h2]
  conv => lhs; unfold rvG
  rw [if_neg h, if_neg h', if_neg h3]
theorem rvG_e {l : List Int} {k : Nat} {n : Int} (h : l.length ≤ k) : rvG (l.drop k) k n = (0, 0, 4) := by
  rw [List.drop_eq_nil_of_le h]; rfl
theorem ret_3 {a b c : Int} {r : Int × Int × Int} (h : r = (a, b, c)) : Ending.returned (.tuple #[.int .u64 a, .int .i64 b, .int .i64 c]) = .returned (.tuple #[.int .u64 r.1, .int .i64 r.2.1, .int .i64 r.2.2]) := by rw [h]
set_option maxRecDepth 100000 in
set_option maxHeartbeats 2000000 in
theorem crv_any (a : Option Addr) (len cap : Nat) (l : List Int) (w : World) (h : Arg w a len cap l) :
    Calls Try.prog 81 #[.slice a len cap] w fun e w' => e = .returned (.tuple #[.int .u64 (rvG l 0 0).1, .int .i64 (rvG l 0 0).2.1, .int .i64 (rvG l 0 0).2.2]) ∧ w' = w := by
  obtain ⟨hl, h2, h3, h4⟩ := h
  have HL : Hid (l.length = len) := hl
  have hle : len ≤ l.length := by omega
  obtain ⟨R, hR⟩ : ∃ R, rvG l 0 0 = R := ⟨_, rfl⟩
  rw [hR]
  have HR : Hid (rvG l 0 0 = R) := hR
  clear hR hl
  go_enter Try.func81, Try.ntmps81
  go_wp2
  go_loop [5, 10] (fun nn i => ∃ (k : Nat) (n : Int), k ≤ len ∧ k ≤ 9 ∧ i = .int .i64 k ∧ nn = .int .u64 n ∧ Hid (rvG (l.drop k) k n = R)) (fun _ i => len - (intOf i).toNat)
  case atStart => exact ⟨0, 0, Nat.zero_le _, by decide, rfl, rfl, HR⟩
  case round =>
    obtain ⟨k, n, hk, hk9, rfl, rfl, HG⟩ := hrel
    by_cases hlt : k < len
    · rcases h4 with rfl | ⟨b, off, rfl, hbl, hc⟩
      · simp at hle; omega
      · have hkl : k < l.length := by omega
        have hcx := hc k hkl
        have hxx : l[k]? = some l[k] := List.getElem?_eq_getElem hkl
        obtain ⟨x0, x1⟩ := h2 _ (List.getElem_mem hkl)
        generalize l[k] = c at *
        have HX : Hid (l[k]? = some c) := hxx
        clear hxx hc
        by_cases ca : k = 9 ∧ 1 < c
        · obtain ⟨c1, c2⟩ := ca
          have HF := rvG_a (n := n) HX.out c1 c2
          rw [HG.out] at HF
          have HF' : Hid (R = (0, 0, 3)) := HF
          have t1 : ((k : Int) == 9) = true := by simp; omega
          clear HF c1
          go_wp2
          go_ret3
          exact ⟨ret_3 HF'.out, rfl⟩
        · by_cases cb : 0 < k ∧ c = 0
          · obtain ⟨c1, c2⟩ := cb
            have HF := rvG_b (n := n) HX.out ca c1 c2
            rw [HG.out] at HF
            have HF' : Hid (R = (0, 0, 3)) := HF
            have t1 : (c == 0) = true := by simp; omega
            have t2 : ¬ 1 < c := by omega
            have t3 : (0 : Int) < (k : Int) := by omega
            clear HF c2 ca
            go_wp2
            all_goals (go_ret3; exact ⟨ret_3 HF'.out, rfl⟩)
          · have hcase : (k = 9 ∧ c = 1) ∨ (¬ k = 9 ∧ k = 0) ∨ (¬ k = 9 ∧ 0 < k ∧ 0 < c) := by omega
            by_cases c3 : c < 128
            · have HF := rvG_c (n := n) HX.out ca cb c3
              rw [HG.out] at HF
              have HF' : Hid (R = (grp n c k, (k : Int) + 1, 0)) := HF
              clear HF ca cb
              rcases hcase with ⟨c1, c2⟩ | ⟨c1, c2⟩ | ⟨c1, c2, c4⟩
              · have t1 : ((k : Int) == 9) = true := by simp; omega
                have t2 : ¬ 1 < c := by omega
                have t3 : (c == 0) = false := by simp; omega
                have t4 : (0 : Int) < (k : Int) := by omega
                clear c1 c2
                go_wp2
                go_ret3
                exact ⟨ret_3 HF'.out, rfl⟩
              · have t1 : ((k : Int) == 9) = false := by simp; omega
                have t4 : ¬ (0 : Int) < (k : Int) := by omega
                clear c1 c2
                go_wp2
                go_ret3
                exact ⟨ret_3 HF'.out, rfl⟩
              · have t1 : ((k : Int) == 9) = false := by simp; omega
                have t3 : (c == 0) = false := by simp; omega
                have t4 : (0 : Int) < (k : Int) := by omega
                clear c1 c2 c4
                go_wp2
                go_ret3
                exact ⟨ret_3 HF'.out, rfl⟩
            · have HF := rvG_d (n := n) HX.out ca cb c3
              rw [HG.out] at HF
              have HF' : Hid (R = rvG (l.drop (k + 1)) (k + 1) (grp n c k)) := HF
              clear HF ca cb
              have k9 : k < 9 := by omega
              rcases hcase with ⟨c1, c2⟩ | ⟨c1, c2⟩ | ⟨c1, c2, c4⟩
              · omega
              · have t1 : ((k : Int) == 9) = false := by simp; omega
                have t4 : ¬ (0 : Int) < (k : Int) := by omega
                clear c1 c2
                go_wp2
                go_round
                case rel => exact ⟨k + 1, grp n c k, by omega, by omega, by go_num, rfl, HF'.out.symm⟩
                case measure => simp [intOf]; omega
              · have t1 : ((k : Int) == 9) = false := by simp; omega
                have t3 : (c == 0) = false := by simp; omega
                have t4 : (0 : Int) < (k : Int) := by omega
                clear c1 c2 c4
                go_wp2
                go_round
                case rel => exact ⟨k + 1, grp n c k, by omega, by omega, by go_num, rfl, HF'.out.symm⟩
                case measure => simp [intOf]; omega
    · have HF := rvG_e (n := n) (l := l) (k := k) (by have := HL.out; omega)
      rw [HG.out] at HF
      have HF' : Hid (R = (0, 0, 4)) := HF
      clear HF
      go_wp2
      go_ret3
      exact ⟨ret_3 HF'.out, rfl⟩
set_option maxRecDepth 100000 in
set_option maxHeartbeats 2000000 in
theorem rrv_any (a : Option Addr) (len cap : Nat) (l : List Int) (w : World) (h : Arg w a len cap l) :
    Calls Try.prog 77 #[.slice a len cap] w fun e w' => e = .returned (.tuple #[.int .u64 (rvG l 0 0).1, .int .i64 (rvG l 0 0).2.1, .int .i64 (rvG l 0 0).2.2]) ∧ w' = w := by
  obtain ⟨hl, h2, h3, h4⟩ := h
  have HL : Hid (l.length = len) := hl
  have hle : len ≤ l.length := by omega
  obtain ⟨R, hR⟩ : ∃ R, rvG l 0 0 = R := ⟨_, rfl⟩
  rw [hR]
  have HR : Hid (rvG l 0 0 = R) := hR
  clear hR hl
  go_enter Try.func77, Try.ntmps77
  go_wp2
  go_loop [5, 6] (fun nn i => ∃ (k : Nat) (n : Int), k ≤ len ∧ k ≤ 9 ∧ i = .int .i64 k ∧ nn = .int .u64 n ∧ Hid (rvG (l.drop k) k n = R)) (fun _ i => len - (intOf i).toNat)
  case atStart => exact ⟨0, 0, Nat.zero_le _, by decide, rfl, rfl, HR⟩
  case round =>
    obtain ⟨k, n, hk, hk9, rfl, rfl, HG⟩ := hrel
    by_cases hlt : k < len
    · rcases h4 with rfl | ⟨b, off, rfl, hbl, hc⟩
      · simp at hle; omega
      · have hkl : k < l.length := by omega
        have hcx := hc k hkl
        have hxx : l[k]? = some l[k] := List.getElem?_eq_getElem hkl
        obtain ⟨x0, x1⟩ := h2 _ (List.getElem_mem hkl)
        generalize l[k] = c at *
        have hand : bits .and .u64 c 127 = c % 128 := and127 c x0 (by omega)
        have HX : Hid (l[k]? = some c) := hxx
        clear hxx hc
        by_cases ca : k = 9 ∧ 1 < c
        · obtain ⟨c1, c2⟩ := ca
          have HF := rvG_a (n := n) HX.out c1 c2
          rw [HG.out] at HF
          have HF' : Hid (R = (0, 0, 3)) := HF
          have t1 : ((k : Int) == 9) = true := by simp; omega
          clear HF c1
          go_wp2
          go_ret3
          exact ⟨ret_3 HF'.out, rfl⟩
        · by_cases cb : 0 < k ∧ c = 0
          · obtain ⟨c1, c2⟩ := cb
            have HF := rvG_b (n := n) HX.out ca c1 c2
            rw [HG.out] at HF
            have HF' : Hid (R = (0, 0, 3)) := HF
            have t1 : (c == 0) = true := by simp; omega
            have t2 : ¬ 1 < c := by omega
            have t3 : (0 : Int) < (k : Int) := by omega
            clear HF c2 ca
            go_wp2
            all_goals (go_ret3; exact ⟨ret_3 HF'.out, rfl⟩)
          · have hcase : (k = 9 ∧ c = 1) ∨ (¬ k = 9 ∧ k = 0) ∨ (¬ k = 9 ∧ 0 < k ∧ 0 < c) := by omega
            by_cases c3 : c < 128
            · have HF := rvG_c (n := n) HX.out ca cb c3
              rw [HG.out] at HF
              have HF' : Hid (R = (grp n c k, (k : Int) + 1, 0)) := HF
              clear HF ca cb
              rcases hcase with ⟨c1, c2⟩ | ⟨c1, c2⟩ | ⟨c1, c2, c4⟩
              · have t1 : ((k : Int) == 9) = true := by simp; omega
                have t2 : ¬ 1 < c := by omega
                have t3 : (c == 0) = false := by simp; omega
                have t4 : (0 : Int) < (k : Int) := by omega
                clear c1 c2
                go_wp2
                go_ret3
                exact ⟨ret_3 HF'.out, rfl⟩
              · have t1 : ((k : Int) == 9) = false := by simp; omega
                have t4 : ¬ (0 : Int) < (k : Int) := by omega
                clear c1 c2
                go_wp2
                go_ret3
                exact ⟨ret_3 HF'.out, rfl⟩
              · have t1 : ((k : Int) == 9) = false := by simp; omega
                have t3 : (c == 0) = false := by simp; omega
                have t4 : (0 : Int) < (k : Int) := by omega
                clear c1 c2 c4
                go_wp2
                go_ret3
                exact ⟨ret_3 HF'.out, rfl⟩
            · have HF := rvG_d (n := n) HX.out ca cb c3
              rw [HG.out] at HF
              have HF' : Hid (R = rvG (l.drop (k + 1)) (k + 1) (grp n c k)) := HF
              clear HF ca cb
              have k9 : k < 9 := by omega
              rcases hcase with ⟨c1, c2⟩ | ⟨c1, c2⟩ | ⟨c1, c2, c4⟩
              · omega
              · have t1 : ((k : Int) == 9) = false := by simp; omega
                have t4 : ¬ (0 : Int) < (k : Int) := by omega
                clear c1 c2
                go_wp2
                go_round
                case rel => exact ⟨k + 1, grp n c k, by omega, by omega, by go_num, rfl, HF'.out.symm⟩
                case measure => simp [intOf]; omega
              · have t1 : ((k : Int) == 9) = false := by simp; omega
                have t3 : (c == 0) = false := by simp; omega
                have t4 : (0 : Int) < (k : Int) := by omega
                clear c1 c2 c4
                go_wp2
                go_round
                case rel => exact ⟨k + 1, grp n c k, by omega, by omega, by go_num, rfl, HF'.out.symm⟩
                case measure => simp [intOf]; omega
    · have HF := rvG_e (n := n) (l := l) (k := k) (by have := HL.out; omega)
      rw [HG.out] at HF
      have HF' : Hid (R = (0, 0, 4)) := HF
      clear HF
      go_wp2
      go_ret3
      exact ⟨ret_3 HF'.out, rfl⟩
theorem rrf4 (a : Option Addr) (len cap : Nat) (l : List Int) (w : World) (h : Arg w a len cap l) :
    Calls Try.prog 42 #[.slice a len cap, .int .i64 4] w fun e w' => e = .returned (.tuple #[.int .u64 (rfV 4 l), .int .i64 (rfE 4 l)]) ∧ w' = w := rrf_any 4 (by decide) a len cap l w h
theorem rrf8 (a : Option Addr) (len cap : Nat) (l : List Int) (w : World) (h : Arg w a len cap l) :
    Calls Try.prog 42 #[.slice a len cap, .int .i64 8] w fun e w' => e = .returned (.tuple #[.int .u64 (rfV 8 l), .int .i64 (rfE 8 l)]) ∧ w' = w := rrf_any 8 (by decide) a len cap l w h
theorem rfV4_bd {l : List Int} (h : ∀ n ∈ l, 0 ≤ n ∧ n < 256) : 0 ≤ rfV 4 l ∧ rfV 4 l < 4294967296 := by
  unfold rfV
  split
  · decide
  · exact leV4_bd h (by omega)
end Go.Proofs.Ytkpijoogaicodaa
