package keys

import (
	stdhmac "crypto/hmac"
	"crypto/sha256"
	"encoding/binary"
	"encoding/hex"
	"math"
	"slices"
	"testing"

	"baton/api"
	"baton/hmac"
	"baton/label"
)

// ends are numbers around 0, around the limits of api and the ends of shorter kinds of numbers, and at the ends of int.
var ends = []int{
	0, 1, 2, 9, -1, -2, 15, 16, 127, 128, 255, 256, -128, -256, 65536,
	math.MaxInt32, math.MaxInt32 + 1, math.MinInt32, math.MinInt32 - 1, math.MaxUint32, math.MaxUint32 + 1,
	api.MaxEpoch - 1, api.MaxEpoch, api.MaxEpoch + 1, api.MaxCount, 0x0123456789abcdef,
	math.MaxInt - 1, math.MaxInt, math.MinInt + 1, math.MinInt,
}

// counted is a secret whose bytes are 1 to 32.
func counted() api.Key {
	var k api.Key
	for i := range k {
		k[i] = byte(i + 1)
	}
	return k
}

// filled is a secret of one byte only.
func filled(c byte) api.Key {
	var k api.Key
	for i := range k {
		k[i] = c
	}
	return k
}

// changed returns k with one bit of one byte changed.
func changed(k api.Key, at, bit int) api.Key {
	k[at] ^= 1 << bit
	return k
}

// secrets are zeros, others, and such as differ from them at an end alone.
func secrets() []api.Key {
	return []api.Key{
		{}, {1}, {31: 1}, {0: 128}, {31: 128}, {1, 2, 3}, filled(255), filled(0x36), filled(0x5c),
		counted(), changed(counted(), 0, 0), changed(counted(), 31, 7), changed(counted(), 16, 3),
	}
}

// slowLabel follows the sentence of P4.2 with Go's own big-endian numbers; flipping the top bit adds 2^63 modulo 2^64.
func slowLabel(name string, numbers ...int) []byte {
	b := append([]byte(name), 0)
	for _, n := range numbers {
		b = binary.BigEndian.AppendUint64(b, uint64(n)^1<<63)
	}
	return b
}

// tagOf returns the tag that Go's own HMAC computes, so that it shares nothing with the layers below.
func tagOf(secret api.Key, text []byte) api.Key {
	h := stdhmac.New(sha256.New, secret[:])
	h.Write(text)
	return api.Key(h.Sum(nil))
}

// P5.1

func TestTheExampleOfTheChapter(t *testing.T) {
	text := []byte{
		'p', 'a', 'c', 'k', 'e', 't', 0,
		0x80, 0, 0, 0, 0, 0, 0, 1,
		0x80, 0, 0, 0, 0, 0, 0, 0,
	}
	for _, s := range secrets() {
		if got, want := Packet(s, 1, 0), tagOf(s, text); got != want {
			t.Errorf("Packet(%x, 1, 0) = %x, want %x", s, got, want)
		}
	}
}

func TestExamples(t *testing.T) {
	zeros := api.Key{}
	for _, x := range []struct {
		name string
		got  api.Key
		want string
	}{
		{"Packet(zeros, 1, 0)", Packet(zeros, 1, 0), "da61f55b1ae395d8937001d5ad056b8855c5b44f86831caf6f9857b0fa5b0f8d"},
		{"Packet(zeros, 0, 0)", Packet(zeros, 0, 0), "a16b298e7955912414e6eeb01b93f2cf7174f5c5112184394981a7a499d21337"},
		{"Packet(zeros, -1, 1)", Packet(zeros, -1, 1), "ada17f8a6c7fc41cbbd37ad3c1a189fc1951fa497fb9753c3922c43096d1e42f"},
		{"Ticket(zeros, 0)", Ticket(zeros, 0), "8e91c7ba09f407895df979f06de5c38e1864dfaf3479e03f95b4d7dbe6bfe65a"},
		{"Device(zeros, 2, 1)", Device(zeros, 2, 1), "e1593b884c9827f2f75ff9f07d98406537061fc74a619f87b064239d74bd6fac"},
		{"Packet(counted, 1, 0)", Packet(counted(), 1, 0), "0273dcda4dc6df7078add0700e98600e5612b87a59f2761a177a36acfb73c8ab"},
		{"Packet(counted, -1, 1)", Packet(counted(), -1, 1), "aba042fa84d114bbfb7302ca8e2b6301687bbcac5337b0d6b43a24f2f6d66ec2"},
		{"Ticket(counted, 9)", Ticket(counted(), 9), "f6fd9a4bcc472ebd0e92f67228f7aff71456a764690b1f3b0aafeceebb0b4baa"},
		{"Ticket(counted, least)", Ticket(counted(), math.MinInt), "1176e148766f179f56f2f116fd8d536a4a59ab1ea15f1a18ac9f9324812be29e"},
		{"Device(counted, 2, 1)", Device(counted(), 2, 1), "fdfd09a9eeda3128af46586d096cc038fae58158051b47664603765e6cb3415b"},
		{"Device(counted, 15, greatest)", Device(counted(), 15, math.MaxInt), "b9c6e0cb84b4e82a23e7fa98c115007172ce9cc28f78e7ca9e56eb06fbe925fb"},
		{"Packet(full, 0, 0)", Packet(filled(255), 0, 0), "1b2b065b2f8685d882958ee741e0377c5b3386fa444c70bb20a7eccd97bc90d1"},
		{"Ticket(full, 9)", Ticket(filled(255), 9), "d982f2599df5476c1534a5645eff86d14023b48d8d49f3453072e31d7633f15a"},
		{"Device(full, 2, 1)", Device(filled(255), 2, 1), "87a7fd87c94a62c849e3e6cd2abe5f317b820b49ea45e7503a89230f8aec0f9d"},
	} {
		if got := hex.EncodeToString(x.got[:]); got != x.want {
			t.Errorf("%s = %s, want %s", x.name, got, x.want)
		}
	}
}

func TestPacketAndDeviceFollowTheSentence(t *testing.T) {
	for _, s := range secrets() {
		for _, n := range ends {
			for _, m := range ends {
				if got, want := Packet(s, n, m), tagOf(s, slowLabel("packet", n, m)); got != want {
					t.Errorf("Packet(%x, %d, %d) = %x, want %x", s, n, m, got, want)
				}
				if got, want := Device(s, n, m), tagOf(s, slowLabel("device", n, m)); got != want {
					t.Errorf("Device(%x, %d, %d) = %x, want %x", s, n, m, got, want)
				}
			}
		}
	}
}

func TestTicketFollowsTheSentence(t *testing.T) {
	for _, s := range secrets() {
		for _, n := range ends {
			if got, want := Ticket(s, n), tagOf(s, slowLabel("ticket", n)); got != want {
				t.Errorf("Ticket(%x, %d) = %x, want %x", s, n, got, want)
			}
		}
	}
}

func TestKeysAreTagsOfTheLayersBelow(t *testing.T) {
	for _, s := range secrets() {
		if e := hmac.Check(s[:], Packet(s, 7, api.Down), label.Of("packet", 7, 1)); e != api.OK {
			t.Errorf("Check of the Packet of %x = %d, want 0", s, e)
		}
		if e := hmac.Check(s[:], Ticket(s, 7), label.Of("ticket", 7)); e != api.OK {
			t.Errorf("Check of the Ticket of %x = %d, want 0", s, e)
		}
		if e := hmac.Check(s[:], Device(s, 7, 1), label.Of("device", 7, 1)); e != api.OK {
			t.Errorf("Check of the Device of %x = %d, want 0", s, e)
		}
	}
}

func TestKnownOfTheTicket(t *testing.T) {
	for _, s := range secrets() {
		for _, n := range ends {
			if !Known(s, n, Ticket(s, n)) || !Known(s, n, tagOf(s, slowLabel("ticket", n))) {
				t.Errorf("Known(%x, %d) of its Ticket is false", s, n)
			}
		}
	}
}

func TestKnownOfAnotherNumber(t *testing.T) {
	for _, s := range []api.Key{{}, counted(), filled(255)} {
		for i, n := range ends {
			for j, m := range ends {
				if got := Known(s, n, Ticket(s, m)); got != (i == j) {
					t.Errorf("Known(%x, %d) of the Ticket of %d = %t", s, n, m, got)
				}
			}
		}
	}
}

func TestKnownOfAnotherSecret(t *testing.T) {
	all := secrets()
	for i, s := range all {
		for j, other := range all {
			for _, n := range []int{0, 9, -1, math.MinInt, math.MaxInt} {
				if got := Known(s, n, Ticket(other, n)); got != (i == j) {
					t.Errorf("Known(%x, %d) of the Ticket of %x = %t", s, n, other, got)
				}
			}
		}
	}
}

func TestKnownOfOneWrongBit(t *testing.T) {
	for _, s := range []api.Key{{}, counted(), filled(255)} {
		for _, n := range []int{0, 9, -1, math.MinInt, math.MaxInt} {
			id := Ticket(s, n)
			for at := range id {
				for bit := range 8 {
					if Known(s, n, changed(id, at, bit)) {
						t.Errorf("Known(%x, %d) with bit %d of byte %d changed is true", s, n, bit, at)
					}
				}
			}
		}
	}
}

func TestKnownOfDifferencesThatCancel(t *testing.T) {
	s := counted()
	id := Ticket(s, 9)
	both := changed(changed(id, 0, 4), 31, 4)
	reversed := id
	slices.Reverse(reversed[:])
	swapped := id
	swapped[0], swapped[31] = id[31], id[0]
	for _, wrong := range []api.Key{both, reversed, swapped} {
		if Known(s, 9, wrong) {
			t.Errorf("Known of %x is true, the Ticket is %x", wrong, id)
		}
	}
}

func TestKnownOfWhatIsNoTicket(t *testing.T) {
	for _, s := range secrets() {
		for _, n := range ends {
			for _, id := range []api.Key{
				{}, filled(255), s,
				Packet(s, n, 0), Packet(s, n, n), Device(s, n, 0), Device(s, n, n),
				tagOf(s, nil), tagOf(s, []byte("ticket")), tagOf(s, slowLabel("ticket")), tagOf(s, slowLabel("ticket", n, 0)),
			} {
				if Known(s, n, id) {
					t.Errorf("Known(%x, %d, %x) is true", s, n, id)
				}
			}
		}
	}
}

// P5.2

// derived is a key, and the label that it must be the tag of.
type derived struct {
	key  api.Key
	text string
}

// allOf returns the keys of all three names with all the numbers.
func allOf(s api.Key, numbers []int) []derived {
	var l []derived
	for _, n := range numbers {
		l = append(l, derived{Ticket(s, n), string(slowLabel("ticket", n))})
		for _, m := range numbers {
			l = append(l, derived{Packet(s, n, m), string(slowLabel("packet", n, m))})
			l = append(l, derived{Device(s, n, m), string(slowLabel("device", n, m))})
		}
	}
	return l
}

func TestKeysAreTagsOfDifferentLabels(t *testing.T) {
	for _, s := range []api.Key{{}, counted(), filled(255)} {
		texts, keys := map[string]int{}, map[api.Key]int{}
		l := allOf(s, ends)
		for i, d := range l {
			if d.key != tagOf(s, []byte(d.text)) {
				t.Errorf("the key %x is not the tag of %x", d.key, d.text)
			}
			texts[d.text] = i
			if j, ok := keys[d.key]; ok {
				t.Errorf("the labels %x and %x have the same key %x", l[j].text, d.text, d.key)
			}
			keys[d.key] = i
		}
		if len(texts) != len(l) {
			t.Errorf("%d keys have %d labels", len(l), len(texts))
		}
	}
}

func TestTheThreeNamesWithTheSameNumbers(t *testing.T) {
	for _, s := range secrets() {
		for _, n := range ends {
			a, b := Packet(s, n, n), Device(s, n, n)
			if c := Ticket(s, n); a == b || a == c || b == c {
				t.Errorf("%d: Packet %x, Ticket %x, Device %x", n, a, c, b)
			}
		}
	}
}

func TestTheOrderOfTheNumbersMatters(t *testing.T) {
	for _, s := range []api.Key{{}, counted(), filled(255)} {
		for i, n := range ends {
			for j, m := range ends {
				if (Packet(s, n, m) == Packet(s, m, n)) != (i == j) {
					t.Errorf("Packet of %d and %d, and in the other order: %x", n, m, Packet(s, n, m))
				}
				if (Device(s, n, m) == Device(s, m, n)) != (i == j) {
					t.Errorf("Device of %d and %d, and in the other order: %x", n, m, Device(s, n, m))
				}
			}
		}
	}
}

func TestEachBitOfANumberMatters(t *testing.T) {
	s := counted()
	for bit := range 64 {
		n := int(uint64(1) << bit)
		for _, m := range []int{0, 5, -1} {
			if Packet(s, m^n, m) == Packet(s, m, m) || Packet(s, m, m^n) == Packet(s, m, m) {
				t.Errorf("bit %d of a number of Packet does not matter", bit)
			}
			if Device(s, m^n, m) == Device(s, m, m) || Device(s, m, m^n) == Device(s, m, m) {
				t.Errorf("bit %d of a number of Device does not matter", bit)
			}
			if Ticket(s, m^n) == Ticket(s, m) {
				t.Errorf("bit %d of the number of Ticket does not matter", bit)
			}
		}
	}
}

func TestEachBitOfTheSecretMatters(t *testing.T) {
	for _, s := range []api.Key{{}, counted(), filled(255)} {
		seen := map[api.Key]int{}
		count := 0
		note := func(secret api.Key) {
			for _, k := range []api.Key{Packet(secret, 3, 1), Ticket(secret, 3), Device(secret, 3, 1)} {
				seen[k]++
				count++
			}
		}
		note(s)
		for at := range s {
			for bit := range 8 {
				note(changed(s, at, bit))
			}
		}
		if len(seen) != count {
			t.Errorf("%d keys of secrets that differ in one bit from %x are %d different ones", count, s, len(seen))
		}
	}
}

func TestKeysOfDerivedSecrets(t *testing.T) {
	// The server derives a device's secret from the master secret, and the packets' keys from that.
	master := counted()
	seen := map[api.Key]int{master: 1}
	count := 1
	for device := range api.MaxDevices {
		for times := range 3 {
			secret := Device(master, device, times)
			seen[secret]++
			count++
			for epoch := range 4 {
				up, down := Packet(secret, epoch, api.Up), Packet(secret, epoch, api.Down)
				if up != tagOf(secret, slowLabel("packet", epoch, 0)) || down != tagOf(secret, slowLabel("packet", epoch, 1)) {
					t.Errorf("keys of device %d, epoch %d: %x, %x", device, epoch, up, down)
				}
				seen[up]++
				seen[down]++
				count += 2
			}
		}
	}
	if len(seen) != count {
		t.Errorf("%d keys are %d different ones", count, len(seen))
	}
}

// P1 and P2

func TestCallsDoNotDependOnEarlierOnes(t *testing.T) {
	s := counted()
	packet, ticket, device := Packet(s, 1, 0), Ticket(s, 1), Device(s, 1, 0)
	for _, other := range secrets() {
		for _, n := range ends {
			Packet(other, n, n)
			Ticket(other, n)
			Device(other, n, n)
			Known(other, n, api.Key{})
			Known(s, n, ticket)
		}
		if Packet(s, 1, 0) != packet || Ticket(s, 1) != ticket || Device(s, 1, 0) != device || !Known(s, 1, ticket) {
			t.Errorf("calls with %x changed what later calls return", other)
		}
	}
	if s != counted() {
		t.Errorf("the secret changed: %x", s)
	}
}

func TestArgumentsStay(t *testing.T) {
	for _, s := range secrets() {
		before := s
		id := Ticket(s, 9)
		same, wrong := id, changed(id, 31, 0)
		Packet(s, 1, 0)
		Device(s, 1, 0)
		Known(s, 9, id)
		Known(s, 9, wrong)
		if s != before || id != same || wrong != changed(same, 31, 0) {
			t.Errorf("an argument changed: %x, %x, %x", s, id, wrong)
		}
	}
}

func TestResultsAreNew(t *testing.T) {
	s := counted()
	for i, f := range []func() api.Key{
		func() api.Key { return Packet(s, 1, 0) },
		func() api.Key { return Ticket(s, 1) },
		func() api.Key { return Device(s, 1, 0) },
	} {
		k := f()
		want := k
		clear(k[:])
		if f() != want || s != counted() {
			t.Errorf("function %d: a result shares memory", i)
		}
	}
}
