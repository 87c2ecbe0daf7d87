/- The mathematics of FragWoven: what is cut and woven in any way is taken, each message once and whole. -/
import Derived.Test.YteblbpdpfegooaaJr
import Derived.Test.YteblbpdpfegooaaI
namespace Go.Proofs.Yteblbpdpfegooaa
open Go.RowKit

/-- What is left of a message from its piece number k on, where acc came before. -/
def tailOk (id : Int) (b : ByteArray) : Int → ByteArray → List Pc → Prop
  | _, _, [] => False
  | k, acc, p :: r => p.id = id ∧ p.place = k ∧ p.more = !r.isEmpty ∧ vP p = true ∧ (if r = [] then acc ++ p.body = b else tailOk id b (k + 1) (acc ++ p.body) r)

def hid (R : List Pc) : Int := match R with
  | [] => 0
  | p :: _ => p.id

theorem tailOk_hid {id : Int} {b : ByteArray} {k : Int} {acc : ByteArray} {R : List Pc} (h : tailOk id b k acc R) : hid R = id ∧ R ≠ [] := by
  match R, h with
  | p :: r, h => exact ⟨h.1, by simp⟩

theorem tailOk_size {id : Int} {b : ByteArray} : ∀ (r : List Pc) {k : Int} {acc : ByteArray} {p : Pc}, tailOk id b k acc (p :: r) → acc.size + p.body.size ≤ b.size
  | [], k, acc, p, h => by
    have h5 := h.2.2.2.2
    rw [if_pos rfl] at h5
    rw [← h5, ByteArray.size_append]
    exact Nat.le_refl _
  | q :: s, k, acc, p, h => by
    have h5 := h.2.2.2.2
    rw [if_neg (by simp)] at h5
    have := tailOk_size s h5
    rw [ByteArray.size_append] at this
    omega

def bytesP : List Pc → Nat
  | [] => 0
  | p :: r => p.body.size + bytesP r
def bytesL : List (List Pc) → Nat
  | [] => 0
  | x :: r => bytesP x + bytesL r

theorem bytesL_ne : ∀ S, bytesL (ne S) = bytesL S
  | [] => rfl
  | x :: r => by
    have ih := bytesL_ne r
    unfold ne at ih ⊢
    cases x with
    | nil => simpa [List.filter_cons, bytesL, bytesP] using ih
    | cons p t => simp only [List.filter_cons, List.isEmpty_cons, Bool.not_false, if_true, bytesL]; rw [ih]

theorem bytesL_set : ∀ (S : List (List Pc)) (i : Nat) (p : Pc) (r : List Pc), S[i]? = some (p :: r) → bytesL (S.set i r) + p.body.size = bytesL S
  | [], i, p, r, h => by simp at h
  | x :: t, 0, p, r, h => by
    have : x = p :: r := by simpa using h
    subst this
    simp only [List.set_cons_zero, bytesL, bytesP]
    omega
  | x :: t, i + 1, p, r, h => by
    have := bytesL_set t i p r (by simpa using h)
    simp only [List.set_cons_succ, bytesL]
    omega

theorem ne_id {S : List (List Pc)} (h : ∀ x ∈ S, x ≠ []) : ne S = S := by
  unfold ne
  rw [List.filter_eq_self]
  intro x hx
  cases x with
  | nil => exact absurd rfl (h _ hx)
  | cons p r => rfl

theorem ne_set_some {S : List (List Pc)} (h : ∀ x ∈ S, x ≠ []) (j : Nat) {r : List Pc} (hr : r ≠ []) : ne (S.set j r) = S.set j r :=
  ne_id fun x hx => by
    rcases List.mem_or_eq_of_mem_set hx with hx | rfl
    · exact h x hx
    · exact hr

theorem ne_set_nil : ∀ {S : List (List Pc)} (_ : ∀ x ∈ S, x ≠ []) (j : Nat) (_ : j < S.length), ne (S.set j []) = S.eraseIdx j
  | x :: t, h, 0, _ => by
    have := ne_id (S := t) fun y hy => h y (List.mem_cons_of_mem _ hy)
    unfold ne at this ⊢
    simp only [List.set_cons_zero, List.filter_cons, List.isEmpty_nil, Bool.not_true, Bool.false_eq_true, if_false, List.eraseIdx_cons_zero]
    exact this
  | x :: t, h, j + 1, hj => by
    have ih := ne_set_nil (S := t) (fun y hy => h y (List.mem_cons_of_mem _ hy)) j (by simpa using hj)
    have hx := h x (List.mem_cons_self ..)
    unfold ne at ih ⊢
    rw [List.set_cons_succ, List.filter_cons, ih, List.eraseIdx_cons_succ]
    cases x with
    | nil => exact absurd rfl hx
    | cons p r => rfl

theorem nodup_sub : ∀ {l m : List Int}, l.Nodup → (∀ x ∈ l, x ∈ m) → l.length ≤ m.length
  | [], _, _, _ => Nat.zero_le _
  | x :: r, m, h, hs => by
    obtain ⟨h1, h2⟩ := List.nodup_cons.1 h
    have hx := hs x (List.mem_cons_self ..)
    have := nodup_sub (l := r) (m := m.erase x) h2 fun y hy => (List.mem_erase_of_ne (fun e => h1 (by rw [← e]; exact hy))).2 (hs y (List.mem_cons_of_mem _ hy))
    rw [List.length_erase_of_mem hx] at this
    have := List.length_pos_of_mem hx
    rw [List.length_cons]
    omega

/-- Between two pieces: T are the lists that have some left. -/
structure WnI (body : Int → ByteArray) (most room : Int) (ops : List Op) (T : List (List Pc)) : Prop where
  nd : (T.map hid).Nodup
  nops : (idsO ops).Nodup
  good : ∀ R ∈ T, ∃ k acc, 0 ≤ k ∧ tailOk (hid R) (body (hid R)) k acc R ∧ (if k = 0 then hid R ∉ idsO ops ∧ acc = ⟨#[]⟩ else (⟨hid R, k, acc⟩ : Op) ∈ ops)
  opn : ∀ x ∈ ops, x.id ∈ T.map hid
  bytes : (bytesO ops : Int) + (bytesL T : Int) < room
  few : (T.length : Int) ≤ most
  small : ∀ R ∈ T, (body (hid R)).size ≤ 65536

theorem idx_of_mem {ops : List Op} (h : (idsO ops).Nodup) {x : Op} (hx : x ∈ ops) : ∃ i, ∃ hi : i < ops.length, idxO ops x.id = some i ∧ ops[i] = x := by
  have h1 := idxO_isSome.2 (mem_idsO.2 ⟨x, hx, rfl⟩)
  obtain ⟨i, hi⟩ := Option.isSome_iff_exists.1 h1
  obtain ⟨h2, h3, _⟩ := idxO_lt hi
  obtain ⟨j, hj, rfl⟩ := List.getElem_of_mem hx
  have : i = j := nodup_at h h2 hj h3
  subst this
  exact ⟨i, h2, hi, rfl⟩

theorem idx_none {ops : List Op} {id : Int} (h : id ∉ idsO ops) : idxO ops id = none := by
  cases hi : idxO ops id with
  | none => rfl
  | some i => exact absurd (idxO_isSome.1 (by rw [hi]; rfl)) h

/-- Taking the next piece of a list: what it does. -/
theorem WnI.takes {body : Int → ByteArray} {most room : Int} {ops : List Op} {T : List (List Pc)} (h : WnI body most room ops T) {p : Pc} {r : List Pc} (hR : p :: r ∈ T) :
    ∃ acc k, (took most room ops p).er = 0 ∧ (took most room ops p).whole = r.isEmpty ∧ (r = [] → (took most room ops p).body = body p.id ∧ (took most room ops p).l = dropO ops p.id) ∧
      (r ≠ [] → (took most room ops p).l = putO ops ⟨p.id, k + 1, acc ++ p.body⟩ ∧ 0 ≤ k ∧ tailOk p.id (body p.id) (k + 1) (acc ++ p.body) r ∧ bytesO (putO ops ⟨p.id, k + 1, acc ++ p.body⟩) = bytesO ops + p.body.size) ∧ (r = [] → bytesO (dropO ops p.id) ≤ bytesO ops) := by
  obtain ⟨k, acc, hk, ht, hst⟩ := h.good _ hR
  have hsz := tailOk_size r ht
  have hsm := h.small _ hR
  obtain ⟨_, h2, h3, h4, h5⟩ := ht
  change (if k = 0 then p.id ∉ idsO ops ∧ acc = ⟨#[]⟩ else (⟨p.id, k, acc⟩ : Op) ∈ ops) at hst
  change (if r = [] then acc ++ p.body = body p.id else tailOk p.id (body p.id) (k + 1) (acc ++ p.body) r) at h5
  change acc.size + p.body.size ≤ (body p.id).size at hsz
  change (body p.id).size ≤ 65536 at hsm
  have hin : p.body.size ≤ bytesL T := by
    obtain ⟨i, hi, he⟩ := List.getElem_of_mem hR
    have := bytesL_set T i p r (by rw [List.getElem?_eq_getElem hi, he])
    omega
  have hb := h.bytes
  have hlen : k = 0 → ops.length < T.length := fun h0 => by
    rw [if_pos h0] at hst
    have h9 := nodup_sub (l := idsO ops) (m := (T.map hid).erase p.id) h.nops fun y hy => by
      obtain ⟨x, hx, rfl⟩ := mem_idsO.1 hy
      exact (List.mem_erase_of_ne (fun e => hst.1 (by rw [← e]; exact hy))).2 (h.opn x hx)
    have hm : p.id ∈ T.map hid := List.mem_map.2 ⟨_, hR, rfl⟩
    rw [List.length_erase_of_mem hm, List.length_map] at h9
    have := List.length_pos_of_mem hR
    have : (idsO ops).length = ops.length := by unfold idsO; exact List.length_map ..
    omega
  refine ⟨acc, k, ?_⟩
  by_cases h0 : k = 0
  · rw [if_pos h0] at hst
    obtain ⟨hn, rfl⟩ := hst
    have hi := idx_none hn
    have hlt := hlen h0
    have hfew := h.few
    subst h0
    have hem : (⟨#[]⟩ : ByteArray) ++ p.body = p.body := by apply ByteArray.ext; simp
    rw [hem] at h5 ⊢
    have hd : dropO ops p.id = ops := by unfold dropO; rw [hi]
    have hpt : putO ops ⟨p.id, 0 + 1, p.body⟩ = ops ++ [⟨p.id, 1, p.body⟩] := by unfold putO; simp only [hi]; rfl
    by_cases hr : r = []
    · have hmo : p.more = false := by rw [h3, hr]; rfl
      have ht : took most room ops p = ⟨ops, p.body, true, 0⟩ := by
        unfold took
        rw [if_pos h4]
        simp only [hi, tookN]
        have : ¬ room < (p.body.size : Int) := by omega
        simp [h2, hmo, this]
      rw [ht, hd]
      rw [if_pos hr] at h5
      exact ⟨rfl, by rw [hr]; rfl, fun _ => ⟨h5, rfl⟩, fun g => absurd hr g, fun _ => Nat.le_refl _⟩
    · have hmo : p.more = true := by rw [h3]; cases r with | nil => exact absurd rfl hr | cons q s => rfl
      have ht : took most room ops p = ⟨ops ++ [⟨p.id, 1, p.body⟩], ⟨#[]⟩, false, 0⟩ := by
        unfold took
        rw [if_pos h4]
        simp only [hi, tookN]
        have e1 : ¬ room < (bytesO ops : Int) + (p.body.size : Int) := by omega
        have e2 : ¬ most ≤ (ops.length : Int) := by omega
        simp [h2, hmo, e1, e2]
      rw [ht, hpt]
      rw [if_neg hr] at h5
      refine ⟨rfl, by cases r with | nil => exact absurd rfl hr | cons q s => rfl, fun g => absurd g hr, fun _ => ⟨rfl, Int.le_refl _, h5, by rw [bytesO_append]; simp [bytesO]⟩, fun g => absurd g hr⟩
  · rw [if_neg h0] at hst
    obtain ⟨i, hil, hi, hx⟩ := idx_of_mem h.nops hst
    change idxO ops p.id = some i at hi
    have hd : dropO ops p.id = ops.eraseIdx i := by unfold dropO; rw [hi]
    have hpt : putO ops ⟨p.id, k + 1, acc ++ p.body⟩ = ops.set i ⟨p.id, k + 1, acc ++ p.body⟩ := by unfold putO; simp only [hi]
    have hbe := bytesO_erase hil
    have hbs := bytesO_set hil ⟨p.id, k + 1, acc ++ p.body⟩
    rw [hx] at hbe hbs
    simp only [ByteArray.size_append] at hbe hbs
    have e0 : ¬ (65536 < acc.size + p.body.size ∨ room < (bytesO ops : Int) + (p.body.size : Int)) := by omega
    by_cases hr : r = []
    · have hmo : p.more = false := by rw [h3, hr]; rfl
      have ht : took most room ops p = ⟨ops.eraseIdx i, acc ++ p.body, true, 0⟩ := by
        unfold took
        rw [if_pos h4]
        simp only [hi, getD_at hil, hx, tookS]
        rw [if_neg (fun g => g h2), if_neg e0, if_pos hmo]
      rw [ht, hd]
      rw [if_pos hr] at h5
      exact ⟨rfl, by rw [hr]; rfl, fun _ => ⟨h5, rfl⟩, fun g => absurd hr g, fun _ => by omega⟩
    · have hmo : p.more = true := by rw [h3]; cases r with | nil => exact absurd rfl hr | cons q s => rfl
      have ht : took most room ops p = ⟨ops.set i ⟨p.id, k + 1, acc ++ p.body⟩, ⟨#[]⟩, false, 0⟩ := by
        unfold took
        rw [if_pos h4]
        simp only [hi, getD_at hil, hx, tookS]
        rw [if_neg (fun g => g h2), if_neg e0, if_neg (by rw [hmo]; decide)]
      rw [ht, hpt]
      rw [if_neg hr] at h5
      exact ⟨rfl, by cases r with | nil => exact absurd rfl hr | cons q s => rfl, fun g => absurd g hr, fun _ => ⟨rfl, hk, h5, by omega⟩, fun g => absurd g hr⟩

end Go.Proofs.Yteblbpdpfegooaa
