import Derived.Test.YtocanjefonlnaaaDoorX
import Derived.Test.YtocanjefonlnaaaDoorY
namespace Go.Proofs.YtocanjefonlnaaaDoor
open Go.RowKit
set_option linter.unusedVariables false
set_option linter.unusedSimpArgs false
structure Inv (how : Int) (st : Ms) : Prop where
  se : SortE how st.E
  sr : SortT how st.R
  n : st.n ≤ 8192
  s0 : 0 ≤ st.sz
  s1 : st.sz ≤ 40000 * (st.n : Int)
  kd : ∀ e ∈ st.E, 0 ≤ e.k ∧ e.k ≤ 1
  sq : ∀ t ∈ st.R, 0 ≤ t.s
theorem inv_nil (how : Int) : Inv how ⟨[], [], 0, 0, 0⟩ :=
  ⟨fun i j a b _ h _ => by simp at h, fun i j a b _ h _ => by simp at h, by simp [Ms.n], by simp, by simp [Ms.n], by simp, by simp⟩
theorem chk_ok {k : Int} {key val : ByteArray} (h : chk k key val = 0) : (k = 0 ∨ k = 1 ∨ k = 2) ∧ key.size ≤ 1024 ∧ (plainV k val).size ≤ 16384 := by
  unfold chk at h
  split at h
  · omega
  · next h1 =>
    split at h
    · omega
    · next h2 =>
      split at h
      · omega
      · next h3 =>
        refine ⟨by omega, by omega, ?_⟩
        unfold plainV
        split
        · decide
        · next h4 =>
          have h5 : ¬ mostV k < (val.size : Int) := fun h => h3 ⟨h4, h⟩
          have : mostV k ≤ 16384 := by unfold mostV; split <;> omega
          omega
theorem eins_len (E : List Ent) (p : Nat) (x : Ent) (hp : p ≤ E.length) : (eins E p x).length = E.length + 1 := by unfold eins; simp; omega
theorem tins_len (E : List Tm) (p : Nat) (x : Tm) (hp : p ≤ E.length) : (tins E p x).length = E.length + 1 := by unfold tins; simp; omega
theorem eins_mem {E : List Ent} {p : Nat} {x e : Ent} (h : e ∈ eins E p x) : e = x ∨ e ∈ E := by
  unfold eins at h
  rw [List.mem_append, List.mem_cons] at h
  rcases h with h | h | h
  · exact .inr (List.mem_of_mem_take h)
  · exact .inl h
  · exact .inr (List.mem_of_mem_drop h)
theorem tins_mem {E : List Tm} {p : Nat} {x e : Tm} (h : e ∈ tins E p x) : e = x ∨ e ∈ E := by
  unfold tins at h
  rw [List.mem_append, List.mem_cons] at h
  rcases h with h | h | h
  · exact .inr (List.mem_of_mem_take h)
  · exact .inl h
  · exact .inr (List.mem_of_mem_drop h)
/-- Add's three ways. -/
theorem addM_way (how : Int) (st : Ms) (seq k : Int) (key val : ByteArray) :
    ((addM how st seq k key val).2 = st ∧ (addM how st seq k key val).1 ≠ 0) ∨
    (k = 2 ∧ chk k key val = 0 ∧ st.n < 8192 ∧ tis how st.R ⟨key, val, seq⟩ (posT how st.R ⟨key, val, seq⟩) = false ∧ addM how st seq k key val = (0, st.rk st.E (tins st.R (posT how st.R ⟨key, val, seq⟩) ⟨key, val, seq⟩) seq key val)) ∨
    (k ≠ 2 ∧ chk k key val = 0 ∧ st.n < 8192 ∧ eisB st.E (posE how st.E key seq k) ⟨key, seq, k, plainV k val⟩ = false ∧ addM how st seq k key val = (0, st.rk (eins st.E (posE how st.E key seq k) ⟨key, seq, k, plainV k val⟩) st.R seq key (plainV k val))) := by
  unfold addM
  by_cases h1 : 72057594037927935 < seq
  · rw [if_pos h1]; exact .inl ⟨rfl, by simp⟩
  · rw [if_neg h1]
    by_cases h2 : chk k key val = 0
    · rw [if_neg (by simp [h2])]
      by_cases h3 : 8192 ≤ st.n
      · rw [if_pos h3]; exact .inl ⟨rfl, by simp⟩
      · rw [if_neg h3]
        by_cases h4 : k = 2
        · rw [if_pos h4]
          cases h5 : tis how st.R ⟨key, val, seq⟩ (posT how st.R ⟨key, val, seq⟩) with
          | true => exact .inl ⟨by simp, by simp⟩
          | false => exact .inr (.inl ⟨h4, h2, by omega, rfl, by simp⟩)
        · rw [if_neg h4]
          cases h5 : eisB st.E (posE how st.E key seq k) ⟨key, seq, k, plainV k val⟩ with
          | true => exact .inl ⟨by simp, by simp⟩
          | false => exact .inr (.inr ⟨h4, h2, by omega, rfl, by simp⟩)
    · rw [if_pos h2]; exact .inl ⟨rfl, h2⟩
theorem inv_add {how : Int} {st : Ms} (h : Inv how st) {seq : Int} (hs : 0 ≤ seq) (k : Int) (key val : ByteArray) : Inv how (addM how st seq k key val).2 := by
  rcases addM_way how st seq k key val with ⟨e, _⟩ | ⟨h1, h2, h3, h4, e⟩ | ⟨h1, h2, h3, h4, e⟩
  · rw [e]; exact h
  · rw [e]
    have hc := cutT_pos h.sr ⟨key, val, seq⟩
    have hl := tins_len st.R _ ⟨key, val, seq⟩ hc.le
    obtain ⟨_, k1, k2⟩ := chk_ok h2
    rw [h1] at k2
    have k3 : val.size ≤ 16384 := k2
    have h0 := h.s0
    have h5 := h.s1
    unfold Ms.n at h3 h5
    refine ⟨h.se, sortT_put h.sr _ hc h4, ?_, ?_, ?_, h.kd, ?_⟩
    · unfold Ms.n Ms.rk; simp only; omega
    · unfold Ms.rk; simp only; omega
    · unfold Ms.n Ms.rk; simp only; omega
    · intro t ht
      rcases tins_mem ht with rfl | ht
      · exact hs
      · exact h.sq t ht
  · rw [e]
    have hc := cutE_pos h.se key seq k
    have hl := eins_len st.E _ ⟨key, seq, k, plainV k val⟩ hc.le
    obtain ⟨k0, k1, k2⟩ := chk_ok h2
    have h0 := h.s0
    have h5 := h.s1
    unfold Ms.n at h3 h5
    refine ⟨sortE_put h.se _ hc h4, h.sr, ?_, ?_, ?_, ?_, h.sq⟩
    · unfold Ms.n Ms.rk; simp only; omega
    · unfold Ms.rk; simp only; omega
    · unfold Ms.n Ms.rk; simp only; omega
    · intro t ht
      rcases eins_mem ht with rfl | ht
      · show 0 ≤ k ∧ k ≤ 1; omega
      · exact h.kd t ht
/-- Add, whatever comes. -/
theorem add_any {w : World} {T : Nat} {B : Nat → Prop} {how : Int} {st : Ms} (h : Tb w T B how st) (hI : Inv how st) (hz : Tz w) (hB : ∀ k, B k → k < w.heap.size) (seq f k : Int) (key val : ByteArray) :
    Calls Tryd.prog 12 #[ptr T, .int .u64 seq, recV f k key val] w (AddPost w T B how (addM how st seq k key val)) := by
  unfold addM
  by_cases h1 : 72057594037927935 < seq
  · rw [if_pos h1]; exact add_seq h seq f k key val h1
  · rw [if_neg h1]
    by_cases h2 : chk k key val = 0
    · rw [if_neg (by simp [h2])]
      by_cases h3 : 8192 ≤ st.n
      · rw [if_pos h3]; exact add_full h seq f k key val (by omega) h2 h3 (by have := hI.n; omega)
      · rw [if_neg h3]
        obtain ⟨k0, k1, k2⟩ := chk_ok h2
        have hn := hI.n
        have hs0 := hI.s0
        have hs1 := hI.s1
        unfold Ms.n at hn hs1
        by_cases h4 : k = 2
        · rw [if_pos h4]
          subst h4
          have hc := cutT_pos hI.sr ⟨key, val, seq⟩
          have H : AddHyp w T B how st seq f 2 key (plainV 2 val) (tis how st.R ⟨key, val, seq⟩ (posT how st.R ⟨key, val, seq⟩) = true) st.E (tins st.R (posT how st.R ⟨key, val, seq⟩) ⟨key, val, seq⟩) :=
            ⟨h, fun W hb => put_range (h.below hb) (fun k hk => Nat.lt_of_lt_of_le (hB k hk) hb.size) seq f key val _ hc (by omega), hB, by omega, by rw [tins_len _ _ _ hc.le]; omega, hs0, by omega, by omega, by omega⟩
          by_cases h5 : tis how st.R ⟨key, val, seq⟩ (posT how st.R ⟨key, val, seq⟩) = true
          · rw [if_pos h5]; exact add_there H (by omega) h2 (by omega) h5
          · rw [if_neg h5]; exact add_fresh H (by omega) h2 (by omega) h5
        · rw [if_neg h4]
          have hc := cutE_pos hI.se key seq k
          have H : AddHyp w T B how st seq f k key (plainV k val) (eis st.E (posE how st.E key seq k) ⟨key, seq, k, plainV k val⟩) (eins st.E (posE how st.E key seq k) ⟨key, seq, k, plainV k val⟩) st.R :=
            ⟨h, fun W hb => put_entry (h.below hb) (fun k hk => Nat.lt_of_lt_of_le (hB k hk) hb.size) (hz.below hb) seq f k (by simpa using h4) key _ _ hc (by omega), hB, by rw [eins_len _ _ _ hc.le]; omega, by omega, hs0, by omega, by omega, by omega⟩
          by_cases h5 : eisB st.E (posE how st.E key seq k) ⟨key, seq, k, plainV k val⟩ = true
          · rw [if_pos h5]; exact add_there H (by omega) h2 (by omega) ((eis_iff _ _ _).2 h5)
          · rw [if_neg h5]; exact add_fresh H (by omega) h2 (by omega) (fun h => h5 ((eis_iff _ _ _).1 h))
    · rw [if_pos h2]; exact add_chk h seq f k key val (by omega) h2
/-- Get, whatever is asked. -/
theorem get_tb {w : World} {T : Nat} {B : Nat → Prop} {how : Int} {st : Ms} (h : Tb w T B how st) (hI : Inv how st) (key : ByteArray) (seq : Int) :
    Calls Tryd.prog 13 #[ptr T, .string key, .int .u64 seq] w fun e w' => e = .returned (gv (getV how st.E st.R key seq (posE how st.E key seq 2))) ∧ Below w.heap.size w w' :=
  get_any h key seq _ (cutE_pos hI.se key seq 2) (by have := hI.n; unfold Ms.n at this; omega)
end Go.Proofs.YtocanjefonlnaaaDoor
